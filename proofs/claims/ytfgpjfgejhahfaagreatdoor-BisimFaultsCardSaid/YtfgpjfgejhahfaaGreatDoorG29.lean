/- Proved here: contracts of the walk to BisimFaults: the reference's flows; each under the conditions that its own statement names. -/
import Derived.Test.YtfgpjfgejhahfaaGreatDoorG28
set_option maxRecDepth 100000
set_option maxHeartbeats 12800000
namespace Go.Proofs.YtfgpjfgejhahfaaGreatDoor
open Go Go.RowKit
def augF (mv : Nat → Nat → Int) (p : Nat → Nat) (d : Int) : Nat → Nat → Nat → Int
 | 0 => mv
 | s + 1 => if s % 2 = 0 then upd2 (augF mv p d s) (p s) (p (s + 1)) (augF mv p d s (p s) (p (s + 1)) + d) else upd2 (augF mv p d s) (p (s + 1)) (p s) (augF mv p d s (p (s + 1)) (p s) - d)
theorem augF_row {mv : Nat → Nat → Int} {p : Nat → Nat} {d : Int} {s : Nat} (h : s % 2 = 0) : augF mv p d (s + 1) = upd2 (augF mv p d s) (p s) (p (s + 1)) (augF mv p d s (p s) (p (s + 1)) + d) := by simp [augF, h]
theorem augF_col {mv : Nat → Nat → Int} {p : Nat → Nat} {d : Int} {s : Nat} (h : s % 2 = 1) : augF mv p d (s + 1) = upd2 (augF mv p d s) (p (s + 1)) (p s) (augF mv p d s (p (s + 1)) (p s) - d) := by simp [augF, h]
theorem Aug.rowAt {n m : Nat} {rel : Nat → Nat → Bool} {mv : Nat → Nat → Int} {le ri : Nat → Int} {p : Nat → Nat} {t : Nat} (h : Aug n m rel mv le ri p t) {s : Nat} (hs : s ≤ 2 * t + 1) (he : s % 2 = 0) : p s < n := by
 have := h.alt.row (s / 2) (by omega)
 rwa [show 2 * (s / 2) = s by omega] at this
theorem Aug.colAt {n m : Nat} {rel : Nat → Nat → Bool} {mv : Nat → Nat → Int} {le ri : Nat → Int} {p : Nat → Nat} {t : Nat} (h : Aug n m rel mv le ri p t) {s : Nat} (hs : s ≤ 2 * t + 1) (he : s % 2 = 1) : p s < m := by
 by_cases e : s = 2 * t + 1
 ·subst e; exact h.last
 ·have := h.alt.col (s / 2) (by omega)
  rwa [show 2 * (s / 2) + 1 = s by omega] at this
theorem Aug.relAt {n m : Nat} {rel : Nat → Nat → Bool} {mv : Nat → Nat → Int} {le ri : Nat → Int} {p : Nat → Nat} {t : Nat} (h : Aug n m rel mv le ri p t) {s : Nat} (hs : s < 2 * t + 1) (he : s % 2 = 0) : rel (p s) (p (s + 1)) = true := by
 by_cases e : s = 2 * t
 ·subst e; exact h.rl
 ·have := h.alt.rl (s / 2) (by omega)
  rwa [show 2 * (s / 2) = s by omega] at this
theorem Aug.mvAt {n m : Nat} {rel : Nat → Nat → Bool} {mv : Nat → Nat → Int} {le ri : Nat → Int} {p : Nat → Nat} {t : Nat} (h : Aug n m rel mv le ri p t) {s : Nat} (hs : s < 2 * t + 1) (he : s % 2 = 1) : 0 < mv (p (s + 1)) (p s) := by
 have := h.alt.mv0 (s / 2) (by omega)
 rwa [show 2 * (s / 2) + 2 = s + 1 by omega, show 2 * (s / 2) + 1 = s by omega] at this
theorem augF_rows {n m : Nat} {rel : Nat → Nat → Bool} {mv : Nat → Nat → Int} {le ri : Nat → Int} {p : Nat → Nat} {t : Nat} (h : Aug n m rel mv le ri p t) (d : Int) (a : Nat) : ∀ s, s ≤ 2 * t + 1 →
    sumN (fun b => augF mv p d s a b) m = sumN (fun b => mv a b) m + (if a = p 0 then d else 0) - (if s % 2 = 0 then (if a = p s then d else 0) else 0) := by
 intro s
 induction s with
 | zero => intro _; simp [augF]
 | succ s ih =>
  intro hs
  have ih := ih (by omega)
  by_cases he : s % 2 = 0
  ·rw [augF_row he, sum_row_upd2 (h.colAt (s := s + 1) hs (by omega)), ih, if_pos he, if_neg (show ¬ (s + 1) % 2 = 0 by omega)]
   omega
  ·have he1 : s % 2 = 1 := by omega
   rw [augF_col he1, Int.sub_eq_add_neg, sum_row_upd2 (h.colAt (s := s) (by omega) he1), ih, if_neg he, if_pos (show (s + 1) % 2 = 0 by omega)]
   by_cases e : a = p (s + 1)
   ·rw [if_pos e]; omega
   ·rw [if_neg e]; omega
theorem augF_cols {n m : Nat} {rel : Nat → Nat → Bool} {mv : Nat → Nat → Int} {le ri : Nat → Int} {p : Nat → Nat} {t : Nat} (h : Aug n m rel mv le ri p t) (d : Int) (b : Nat) : ∀ s, s ≤ 2 * t + 1 →
    sumN (fun a => augF mv p d s a b) n = sumN (fun a => mv a b) n + (if s % 2 = 1 then (if b = p s then d else 0) else 0) := by
 intro s
 induction s with
 | zero => intro _; simp [augF]
 | succ s ih =>
  intro hs
  have ih := ih (by omega)
  by_cases he : s % 2 = 0
  ·rw [augF_row he, sum_col_upd2 (h.rowAt (s := s) (by omega) he), ih, if_neg (show ¬ s % 2 = 1 by omega), if_pos (show (s + 1) % 2 = 1 by omega)]
   omega
  ·have he1 : s % 2 = 1 := by omega
   rw [augF_col he1, Int.sub_eq_add_neg, sum_col_upd2 (h.rowAt (s := s + 1) hs (by omega)), ih, if_pos he1, if_neg (show ¬ (s + 1) % 2 = 1 by omega)]
   by_cases e : b = p s
   ·rw [if_pos e]; omega
   ·rw [if_neg e]; omega
theorem augF_ge {n m : Nat} {rel : Nat → Nat → Bool} {mv : Nat → Nat → Int} {le ri : Nat → Int} {p : Nat → Nat} {t : Nat} (h : Aug n m rel mv le ri p t) {d : Int} (hd : 0 ≤ d) : ∀ s, s ≤ 2 * t + 1 → ∀ a b,
    mv a b ≤ augF mv p d s a b ∨ ∃ i, 2 * i + 2 ≤ s ∧ a = p (2 * i + 2) ∧ b = p (2 * i + 1) ∧ mv a b - d ≤ augF mv p d s a b := by
 intro s
 induction s with
 | zero => intro _ a b; exact Or.inl (Int.le_refl _)
 | succ s ih =>
  intro hs a b
  have ih := ih (by omega) a b
  by_cases he : s % 2 = 0
  ·rw [augF_row he]
   by_cases e : a = p s ∧ b = p (s + 1)
   ·obtain ⟨rfl, rfl⟩ := e
    rw [upd2_same]
    rcases ih with ih | ⟨i, h1, h2, h3, h4⟩
    ·exact Or.inl (by omega)
    ·exact Or.inr ⟨i, by omega, h2, h3, by omega⟩
   ·simp only [upd2, if_neg e]
    rcases ih with ih | ⟨i, h1, h2, h3, h4⟩
    ·exact Or.inl ih
    ·exact Or.inr ⟨i, by omega, h2, h3, h4⟩
  ·have he1 : s % 2 = 1 := by omega
   rw [augF_col he1]
   by_cases e : a = p (s + 1) ∧ b = p s
   ·obtain ⟨rfl, rfl⟩ := e
    rw [upd2_same]
    rcases ih with ih | ⟨i, h1, h2, h3, h4⟩
    ·exact Or.inr ⟨s / 2, by omega, by rw [show 2 * (s / 2) + 2 = s + 1 by omega], by rw [show 2 * (s / 2) + 1 = s by omega], by omega⟩
    ·exfalso
     have hin := h.alt.inj (i + 1) ((s + 1) / 2) (by omega) (by omega)
     rw [show 2 * (i + 1) = 2 * i + 2 by omega, show 2 * ((s + 1) / 2) = s + 1 by omega] at hin
     exact hin h2.symm
   ·simp only [upd2, if_neg e]
    rcases ih with ih | ⟨i, h1, h2, h3, h4⟩
    ·exact Or.inl ih
    ·exact Or.inr ⟨i, by omega, h2, h3, h4⟩
theorem augF_not {n m : Nat} {L Rr : Nat → Int} {rel : Nat → Nat → Bool} {mv : Nat → Nat → Int} {le ri : Nat → Int} {p : Nat → Nat} {t : Nat} (hp : Part n m L Rr rel mv le ri) (h : Aug n m rel mv le ri p t) (d : Int) {a b : Nat} (hr : rel a b = false) : ∀ s, s ≤ 2 * t + 1 → augF mv p d s a b = mv a b := by
 intro s
 induction s with
 | zero => intro _; rfl
 | succ s ih =>
  intro hs
  by_cases he : s % 2 = 0
  ·rw [augF_row he]
   by_cases e : a = p s ∧ b = p (s + 1)
   ·have := h.relAt (s := s) (by omega) he
    rw [← e.1, ← e.2, hr] at this; cases this
   ·simp only [upd2, if_neg e]; exact ih (by omega)
  ·have he1 : s % 2 = 1 := by omega
   rw [augF_col he1]
   by_cases e : a = p (s + 1) ∧ b = p s
   ·have h1 := h.mvAt (s := s) (by omega) he1
    rw [← e.1, ← e.2] at h1
    have h2 := hp.mvr a b (by rw [e.1]; exact h.rowAt hs (by omega)) (by rw [e.2]; exact h.colAt (by omega) he1) hr
    omega
   ·simp only [upd2, if_neg e]; exact ih (by omega)
structure AugD (n m : Nat) (mv : Nat → Nat → Int) (le ri : Nat → Int) (p : Nat → Nat) (t : Nat) (d : Int) : Prop where
 pos : 0 < d
 le : d ≤ le (p 0)
 ri : d ≤ ri (p (2 * t + 1))
 mv : ∀ i, i < t → d ≤ mv (p (2 * i + 2)) (p (2 * i + 1))
theorem augF_bd {n m : Nat} {L Rr : Nat → Int} {rel : Nat → Nat → Bool} {mv : Nat → Nat → Int} {le ri : Nat → Int} {p : Nat → Nat} {t : Nat} {d : Int} (hp : Part n m L Rr rel mv le ri) (h : Aug n m rel mv le ri p t) (hd : AugD n m mv le ri p t d) {s : Nat} (hs : s ≤ 2 * t + 1) {a b : Nat} (ha : a < n) (hb : b < m) :
    0 ≤ augF mv p d s a b ∧ augF mv p d s a b ≤ L a + d := by
 have h0 : ∀ a b, a < n → b < m → 0 ≤ augF mv p d s a b := by
  intro a b ha hb
  have hm := hp.mv0 a b ha hb
  rcases augF_ge h (Int.le_of_lt hd.pos) s hs a b with h1 | ⟨i, h1, h2, h3, h4⟩
  ·omega
  ·have := hd.mv i (by omega)
   rw [← h2, ← h3] at this
   omega
 refine ⟨h0 a b ha hb, ?_⟩
 have h1 := sumN_elem (f := fun b => augF mv p d s a b) (fun b hb => h0 a b ha hb) hb
 rw [augF_rows h d a s hs] at h1
 have h2 := hp.rows a ha
 have h3 := hp.le0 a ha
 have hpos := hd.pos
 split at h1 <;> split at h1 <;> (try split at h1) <;> omega
theorem Part.augment {n m : Nat} {L Rr : Nat → Int} {rel : Nat → Nat → Bool} {mv : Nat → Nat → Int} {le ri : Nat → Int} {p : Nat → Nat} {t : Nat} {d : Int} (hp : Part n m L Rr rel mv le ri) (h : Aug n m rel mv le ri p t) (hd : AugD n m mv le ri p t d) :
    Part n m L Rr rel (augF mv p d (2 * t + 1)) (upd le (p 0) (le (p 0) - d)) (upd ri (p (2 * t + 1)) (ri (p (2 * t + 1)) - d)) := by
 have hle := hd.le
 have hri := hd.ri
 refine ⟨fun a b ha hb => (augF_bd hp h hd (Nat.le_refl _) ha hb).1, fun a b ha hb hr => ?_, fun a ha => ?_, fun b hb => ?_, fun a ha => ?_, fun b hb => ?_⟩
 ·rw [augF_not hp h d hr _ (Nat.le_refl _)]; exact hp.mvr a b ha hb hr
 ·by_cases e : a = p 0
  ·subst e; rw [upd_same]; omega
  ·rw [upd_other e]; exact hp.le0 a ha
 ·by_cases e : b = p (2 * t + 1)
  ·subst e; rw [upd_same]; omega
  ·rw [upd_other e]; exact hp.ri0 b hb
 ·rw [augF_rows h d a _ (Nat.le_refl _), if_neg (show ¬ (2 * t + 1) % 2 = 0 by omega)]
  have := hp.rows a ha
  by_cases e : a = p 0
  ·subst e; rw [upd_same, if_pos rfl]; omega
  ·rw [upd_other e, if_neg e]; omega
 ·rw [augF_cols h d b _ (Nat.le_refl _), if_pos (show (2 * t + 1) % 2 = 1 by omega)]
  have := hp.cols b hb
  by_cases e : b = p (2 * t + 1)
  ·subst e; rw [upd_same, if_pos rfl]; omega
  ·rw [upd_other e, if_neg e]; omega
theorem sum_less {n : Nat} {le : Nat → Int} {a : Nat} {d : Int} (ha : a < n) : sumN (upd le a (le a - d)) n = sumN le n - d := by
 rw [sumN_upd le (upd le a (le a - d)) a (-d) n (fun i _ hi => upd_other hi) (fun _ => by rw [upd_same]; omega), if_pos ha]
 omega
end Go.Proofs.YtfgpjfgejhahfaaGreatDoor
namespace Go.Proofs.YtfgpjfgejhahfaaGreatDoor
open Go Go.RowKit
open Go.Lib (hid)
structure FlM (w : World) (lb rb mb n m : Nat) (le ri : Nat → Int) (mv : Nat → Nat → Int) : Prop where
 left : RowP w lb n le
 right : RowP w rb m ri
 moved : w.rowIs mb 26 n (fun i => .slice (some ⟨mb + 1 + i, 0, none⟩) m m)
 rows : ∀ i, i < n → w.rowIs (mb + 1 + i) 3 m (fun j => .int .i64 (mv i j))
structure FlO (B lb rb mb : Nat) : Prop where
 l : B ≤ lb
 r : B ≤ rb
 lm : lb < mb
 rm : rb < mb
 lr : lb ≠ rb
theorem FlM.below {w w' : World} {lb rb mb n m : Nat} {le ri : Nat → Int} {mv : Nat → Nat → Int} (h : FlM w lb rb mb n m le ri mv) (hb : Below w.heap.size w w') : FlM w' lb rb mb n m le ri mv :=
 ⟨h.left.same (hb.block _ h.left.lt), h.right.same (hb.block _ h.right.lt), h.moved.of_block (hb.block _ h.moved.lt), fun i hi => (h.rows i hi).of_block (hb.block _ (h.rows i hi).lt)⟩
theorem FlM.tab {w : World} {lb rb mb n m : Nat} {le ri : Nat → Int} {mv : Nat → Nat → Int} (h : FlM w lb rb mb n m le ri mv) : TabI w (some ⟨mb, 0, none⟩) n m mv :=
 ⟨fun i => some ⟨mb + 1 + i, 0, none⟩, fun _ => m, rowIs_cel h.moved, fun i hi => rowIs_cel (h.rows i hi)⟩
theorem FlM.setLeft {w : World} {B lb rb mb n m : Nat} {le ri : Nat → Int} {mv : Nat → Nat → Int} (h : FlM w lb rb mb n m le ri mv) (ho : FlO B lb rb mb) (a : Nat) (x : Int) : FlM (w.setCell ⟨lb, a, none⟩ (.int .i64 x)) lb rb mb n m (upd le a x) ri mv := by
 have h1 := ho.lm
 have h2 := ho.lr
 exact ⟨h.left.set a x, h.right.same (Below.heap_setCell _ _ _ _ (by simp only; omega)), h.moved.setOther (by simp; omega) _, fun i hi => (h.rows i hi).setOther (by simp; omega) _⟩
theorem FlM.setRight {w : World} {B lb rb mb n m : Nat} {le ri : Nat → Int} {mv : Nat → Nat → Int} (h : FlM w lb rb mb n m le ri mv) (ho : FlO B lb rb mb) (a : Nat) (x : Int) : FlM (w.setCell ⟨rb, a, none⟩ (.int .i64 x)) lb rb mb n m le (upd ri a x) mv := by
 have h1 := ho.rm
 have h2 := ho.lr
 exact ⟨h.left.same (Below.heap_setCell _ _ _ _ (by simp only; omega)), h.right.set a x, h.moved.setOther (by simp; omega) _, fun i hi => (h.rows i hi).setOther (by simp; omega) _⟩
theorem FlM.setMoved {w : World} {B lb rb mb n m : Nat} {le ri : Nat → Int} {mv : Nat → Nat → Int} (h : FlM w lb rb mb n m le ri mv) (ho : FlO B lb rb mb) (a b : Nat) (x : Int) : FlM (w.setCell ⟨mb + 1 + a, b, none⟩ (.int .i64 x)) lb rb mb n m le ri (upd2 mv a b x) := by
 have h1 := ho.lm
 have h2 := ho.rm
 refine ⟨h.left.same (Below.heap_setCell _ _ _ _ (by simp only; omega)), h.right.same (Below.heap_setCell _ _ _ _ (by simp only; omega)), h.moved.setOther (by simp; omega) _, fun i hi => ?_⟩
 by_cases e : i = a
 ·subst e
  exact (rowI_set (h.rows i hi) b x).congr (fun j _ => by simp [upd2])
 ·exact ((h.rows i hi).setOther (by simp; omega) _).congr (fun j _ => by rw [upd2_row j e])
def cellI (w : World) (b i : Nat) : Int := intOf ((w.cell? ⟨b, i, none⟩).getD undef)
theorem RowP.sum {w : World} {b n : Nat} {f : Nat → Int} (h : RowP w b n f) : sumN (cellI w b) n = sumN f n :=
 sumN_congr n (fun i hi => by unfold cellI; rw [h.cell hi]; rfl)
theorem eqlNil1 (g n c : Nat) (w : World) : (binOp .eql 26 (.slice (some ⟨g, 0, none⟩) n c) (.slice none 0 0)).run Tryz.prog w = .ok (.bool false) w := by kernel_rfl
theorem eqlNil0 (w : World) : (binOp .eql 26 (.slice none 0 0) (.slice none 0 0)).run Tryz.prog w = .ok (.bool true) w := by kernel_rfl
theorem flows_any (c1 c2 c4 : Option Addr) (p1 p2 p4 n m : Nat) (rel : Nat → Nat → Bool) (L Rr : Nat → Int) (w : World)
    (h1 : Cel w c1 n (fun i => .int .i64 (L i))) (h2 : Cel w c2 m (fun i => .int .i64 (Rr i))) (h4 : Tab w c4 n m rel) (hn0 : 0 < n) (hm0 : 0 < m) (hn : n ≤ 1000) (hm : m ≤ 1000)
    (hL : ∀ i, i < n → 0 ≤ L i) (hR : ∀ i, i < m → 0 ≤ Rr i) (hs : sumN L n = sumN Rr m) (hb : sumN L n ≤ 1152921504606846976) :
    Calls Tryz.prog 60 #[.slice c1 n p1, .slice c2 m p2, .slice c4 n p4] w fun e w' => ∃ r : Bool, e = .returned (.bool r) ∧ (r = true ↔ Flow n m L Rr rel) ∧ Below w.heap.size w w' := by
 obtain ⟨b1, o1, rfl, _⟩ := h1.all hn0
 obtain ⟨b2, o2, rfl, _⟩ := h2.all hm0
 have H4 := hid h4
 have HS := hid (And.intro hL (And.intro hR (And.intro hs hb)))
 have news : ∀ (N : Nat) (f : Nat → Int) (b o : Nat) (x : World), Cel x (some ⟨b, o, none⟩) N (fun i => .int .i64 (f i)) → ∀ (j : Nat) (u : Value), ((List.range N).map (fun i => Value.int .i64 (f i)))[j]? = some u → x.cell? (Addr.add ⟨b, o, none⟩ j) = some u := by
  intro N f b o x hc j u hu
  have hj : j < N := by
   have := (List.getElem?_eq_some_iff.1 hu).1
   simpa using this
  obtain ⟨b', o', e, h⟩ := hc j hj
  injection e with e
  injection e with e1 e2
  subst e1 e2
  simp only [List.getElem?_map, List.getElem?_range hj, Option.map_some, Option.some.injEq] at hu
  subst hu
  unfold Addr.add
  split
  ·subst j; exact h
  ·simpa using h
 have rowOf : ∀ (N s g c : Nat) (f : Nat → Int) (x : World), x.ownsRow s 3 1 (.slice (some ⟨g, 0, none⟩) N c) N ((List.range N).map (fun i => Value.int .i64 (f i))) → RowP x g N f ∧ s ≤ g := by
  intro N s g c f x h
  have h2 : x.ownsRow s 3 1 (.slice (some ⟨g, 0, none⟩) N c) N (((List.range N).map f).map (Value.int .i64)) := by rw [List.map_map]; exact h
  exact ⟨(rowP_of_own h2).congr (fun i hi => by simp [List.getD_eq_getElem?_getD, hi]), (h2.lt g rfl).1⟩
 have HN1 := hid (news n L b1 o1 w h1)
 have HN2 := hid (fun x (hx : Below w.heap.size w x) => news m Rr b2 o2 x (h2.below hx))
 have HRO := hid rowOf
 clear h1 h2 h4 hL hR hs hb news rowOf
 obtain ⟨i0, hi, hz0, hz1, hz2⟩ := info_parts infoInt
 have HI := hid (And.intro hi (And.intro hz0 (And.intro hz1 hz2)))
 have hmkn := run_make_row' (P := Tryz.prog) 137 26 (.slice none 0 0) 24 Tryz.underlying137 infoRow rfl .i64 .i64 n (by omega) (by omega)
 have hmkm := run_make_row' (P := Tryz.prog) 26 3 (.int .i64 0) 8 Tryz.underlying26 infoInt rfl .i64 .i64 m (by omega) (by omega)
 clear hi hz0 hz1 hz2
 go_enter Tryz.func60, Tryz.ntmps60
 go_wp2_with (at_builtin; first
  | (refine wpList_append_own_at _ rfl _ _ 26 rfl w.heap.size 3 i0 (.int .i64 0) 1 8 Tryz.underlying26 HI.out.1 HI.out.2.1 HI.out.2.2.1 HI.out.2.2.2 rfl (by decide) _ _ _ rfl (World.ownsRow_nil _ _ _ _) ⟨b1, o1, none⟩ n p1 ((List.range n).map (fun i => Value.int .i64 (L i))) rfl (by simp) HN1.out (by intro u hu; obtain ⟨x, _, rfl⟩ := List.mem_map.1 hu; rfl) (by unfold maxLen; omega) (by omega) (Nat.le_refl _) ?_
     intro v1 w1 hown1 hgrow1 _ hat1
     rw [Nat.zero_add, List.nil_append] at hown1
     obtain ⟨lb, lc, rfl⟩ := own_pos hown1 hn0
     have HO1 := hid (HRO.out _ _ _ _ _ _ hown1)
     have HG1 := hid (show Below w.heap.size w w1 from (Below.refl _ _).grown hgrow1 (Nat.le_refl _) (fun j hj => by cases hj))
     clear hown1 hgrow1 hat1)
  | (refine wpList_append_own_at _ rfl _ _ 26 rfl w1.heap.size 3 i0 (.int .i64 0) 1 8 Tryz.underlying26 HI.out.1 HI.out.2.1 HI.out.2.2.1 HI.out.2.2.2 rfl (by decide) _ _ _ rfl (World.ownsRow_nil _ _ _ _) ⟨b2, o2, none⟩ m p2 ((List.range m).map (fun i => Value.int .i64 (Rr i))) rfl (by simp) (HN2.out _ HG1.out) (by intro u hu; obtain ⟨x, _, rfl⟩ := List.mem_map.1 hu; rfl) (by unfold maxLen; omega) (by omega) (Nat.le_refl _) ?_
     intro v2 w2 hown2 hgrow2 _ hat2
     rw [Nat.zero_add, List.nil_append] at hown2
     obtain ⟨rb, rc, rfl⟩ := own_pos hown2 hm0
     have HO2 := hid (HRO.out _ _ _ _ _ _ hown2)
     have HG2 := hid (show Below w1.heap.size w1 w2 from (Below.refl _ _).grown hgrow2 (Nat.le_refl _) (fun j hj => by cases hj))
     clear hown2 hgrow2 hat2))
 obtain ⟨mb, hmb⟩ : ∃ mb, mb = w2.heap.size := ⟨_, rfl⟩
 obtain ⟨W, hW⟩ : ∃ W : World, W = w2.alloc (Obj.cells (madeCells #[Value.slice none 0 0] n) 26) := ⟨_, rfl⟩
 have HWR := hid (show W.rowIs mb 26 n (fun _ => .slice none 0 0) by rw [hW, hmb]; exact World.rowIs_made _ _ _ _)
 have HWS := hid (show W.heap.size = mb + 1 by rw [hW, hmb]; simp)
 have HWL := hid (show Below w2.heap.size w2 W by rw [hW]; exact ba _ _)
 have HLB := hid (show RowP W lb n L ∧ RowP W rb m Rr from ⟨(HO1.out.1.same (HG2.out.block _ HO1.out.1.lt)).same (HWL.out.block _ (by have := HO1.out.1.lt; have := HG2.out.size; omega)), HO2.out.1.same (HWL.out.block _ HO2.out.1.lt)⟩)
 have HFO := hid (show FlO w.heap.size lb rb mb from ⟨HO1.out.2, by have := HO2.out.2; have := HG1.out.size; omega, by rw [hmb]; have := HO1.out.1.lt; have := HG2.out.size; omega, by rw [hmb]; exact HO2.out.1.lt, by have := HO1.out.1.lt; have := HO2.out.2; omega⟩)
 have HBW := hid (show Below w.heap.size w W from (HG1.out.trans (HG2.out.mono HG1.out.size)).trans (HWL.out.mono (by have := HG1.out.size; have := HG2.out.size; omega)))
 have HMB := hid (show w.heap.size ≤ mb by rw [hmb]; have := HG1.out.size; have := HG2.out.size; omega)
 rw [← hW, ← hmb]
 clear hW hmb hmkn HN1 HN2 HRO HO1 HO2 HG1 HG2 HWL
 go_loopw [24] (fun i wr => ∃ k : Nat, k ≤ n ∧ i = .int .i64 k ∧ wr.heap.size = mb + 1 + k ∧ wr.rowIs mb 26 n (fun i => if i < k then .slice (some ⟨mb + 1 + i, 0, none⟩) m m else .slice none 0 0) ∧ (∀ i, i < k → wr.rowIs (mb + 1 + i) 3 m (fun _ => .int .i64 0)) ∧ RowP wr lb n L ∧ RowP wr rb m Rr ∧ Below w.heap.size w wr) (fun i _ => n - (intOf i).toNat)
 case atStart => exact ⟨0, Nat.zero_le _, rfl, HWS.out, HWR.out.congr (fun i _ => by simp), fun i h => by omega, HLB.out.1, HLB.out.2, HBW.out⟩
 case round =>
  obtain ⟨k, hk, rfl, hsz, hmv, hrows, hl, hr, hb⟩ := hrel
  have HMV := hid hmv
  have HRS := hid hrows
  have HLR := hid (And.intro hl hr)
  have HB := hid hb
  have HSZ := hid hsz
  by_cases hlt : k < n
  ·have hmv' : (wr.alloc (Obj.cells (madeCells #[Value.int .i64 0] m) 3)).rowIs mb 26 n _ := hmv.of_block (Below.heap_alloc _ _ _ hmv.lt)
   have y0 := hmv'.cell hlt
   have y1 := hmv'.frozen k
   have hszl : mb < wr.heap.size := hmv.lt
   clear hmv' hmv hrows hl hr hb hsz
   go_wp2_with fail
   rw [HSZ.out]
   go_roundw
   case rel =>
    obtain ⟨Y, hY⟩ : ∃ Y : World, Y = wr.setCell ⟨mb, k, none⟩ (.slice (some ⟨mb + 1 + k, 0, none⟩) m m) := ⟨_, rfl⟩
    have hYs : Y.heap.size = mb + 1 + k := by rw [hY]; simp [World.setCell, HSZ.out]
    have hnew := World.rowIs_made Y (Value.int .i64 0) m 3
    rw [hYs] at hnew
    have old : ∀ {b : Nat}, b < mb + 1 + k → (Y.alloc (Obj.cells (madeCells #[Value.int .i64 0] m) 3)).heap[b]? = Y.heap[b]? := fun hb => Below.heap_alloc _ _ _ (by omega)
    have h1 := HFO.out.lm
    have h2 := HFO.out.rm
    rw [← hY]
    refine ⟨k + 1, by omega, by go_num, by simp [hYs]; omega, ?_, fun i hi => ?_, ?_, ?_, ?_⟩
    ·refine World.rowIs.of_block (w := Y) ?_ (old (by omega))
     rw [hY]
     refine (HMV.out.set k (.slice (some ⟨mb + 1 + k, 0, none⟩) m m)).congr (fun i hi => ?_)
     by_cases e : i = k
     ·subst e; simp
     ·by_cases e2 : i < k
      ·simp [e, e2, show i < k + 1 by omega]
      ·simp [e, e2, show ¬ i < k + 1 by omega]
    ·by_cases e : i = k
     ·subst e; exact hnew
     ·refine World.rowIs.of_block (w := Y) ?_ (old (by omega))
      rw [hY]
      exact (HRS.out i (by omega)).setOther (by simp; omega) _
    ·refine RowP.same (w := Y) ?_ (old (by omega))
     rw [hY]
     exact HLR.out.1.same (Below.heap_setCell _ _ _ _ (by simp only; omega))
    ·refine RowP.same (w := Y) ?_ (old (by omega))
     rw [hY]
     exact HLR.out.2.same (Below.heap_setCell _ _ _ _ (by simp only; omega))
    ·have hby : Below w.heap.size w Y := by rw [hY]; exact HB.out.setCell (by have := HMB.out; simpa using this) _
     exact hby.alloc hby.size _
   case measure => simp [intOf]; omega
  ·obtain rfl : k = n := by omega
   have HFM := hid (show FlM wr lb rb mb k m L Rr (fun _ _ => 0) from ⟨hl, hr, hmv.congr (fun i hi => by simp [hi]), hrows⟩)
   clear hmv hrows hl hr hb hsz HMV HRS HLR HWR HWS HLB HBW hmkm
   go_wp2_with fail
   obtain ⟨hL, hR, hs, hbd⟩ := HS.out
   have HPS := hid (Part.start (n := k) (m := m) (L := L) (R := Rr) (rel := rel) hL hR)
   clear hL hR hs hbd
   go_loopw [12] (fun z wr => ∃ (le ri : Nat → Int) (mv : Nat → Nat → Int) (y : Value), y = z ∧ FlM wr lb rb mb k m le ri mv ∧ Part k m L Rr rel mv le ri ∧ Below w.heap.size w wr) (fun _ wr => (sumN (cellI wr lb) k).toNat)
   case atStart => exact ⟨L, Rr, fun _ _ => 0, _, rfl, HFM.out, HPS.out, HB.out⟩
   case round =>
    obtain ⟨le, ri, mv, y, rfl, hf, hp, hb⟩ := hrel
    have HF := hid hf
    have HP := hid hp
    have HB1 := hid hb
    have hS1 : sumN le k ≤ sumN L k := sumN_le k (fun i hi => (hp.le_L hi).2)
    have hS0 : 0 ≤ sumN le k := sumN_nonneg k (fun i hi => hp.le0 i hi)
    have HSUM := hid (sumR_any (some ⟨lb, 0, none⟩) lc k le wr hf.left.cel (fun i hi => hp.le0 i hi) (by have := HS.out.2.2.2; omega) (by omega))
    have HWAY := hid (way_any (some ⟨lb, 0, none⟩) (some ⟨rb, 0, none⟩) (some ⟨mb, 0, none⟩) c4 lc rc k p4 k m rel mv le ri wr hf.left.cel hf.right.cel hf.tab (H4.out.below hb) hn hm)
    obtain ⟨S, hS⟩ : ∃ S, S = sumN le k := ⟨_, rfl⟩
    rw [← hS] at hS1 hS0 HSUM
    have HSS := hid hS
    have HS1 := hid hS1
    clear hf hp hb hS hS1
    go_wp2_with fail
    refine HSUM.out.mono ?_
    rintro e w' ⟨rfl, hw'⟩
    subst hw'
    by_cases hpos : 0 < S
    ·go_wp2_with fail
     refine HWAY.out.mono ?_
     rintro e w2 ⟨hb2, ⟨rfl, hsh⟩ | ⟨g, cap, p, t, rfl, hrp, hau, htn, hg⟩⟩
     ·have HSH := hid hsh
      have HB2 := hid (HB1.out.trans (hb2.mono HB1.out.size))
      clear hb2 hsh
      have he := eqlNil0
      go_wp2_with fail
      go_ret
      exact ⟨false, rfl, ⟨(fun h => by cases h), fun h => absurd h (HSH.out.noFlow HP.out (by rw [← HSS.out]; exact hpos))⟩, HB2.out⟩
     ·have HF2 := hid (HF.out.below hb2)
      have hf0 := HF
      have HRP := hid hrp
      have HAU := hid hau
      have HB2 := hid (HB1.out.trans (hb2.mono HB1.out.size))
      clear hb2 hau HWAY HSUM
      have he := eqlNil1 g (2 * t + 2) cap
      go_wp2_with fail
      have hp0 : p 0 < k := HAU.out.rowAt (s := 0) (by omega) rfl
      have hpl : p (2 * t + 1) < m := HAU.out.last
      obtain ⟨A, hA⟩ : ∃ A, A = p 0 := ⟨_, rfl⟩
      obtain ⟨Z, hZ⟩ : ∃ Z, Z = p (2 * t + 1) := ⟨_, rfl⟩
      have g0 := hrp.cell (show 0 < 2 * t + 2 by omega)
      have g1 := hrp.cell (show 2 * t + 1 < 2 * t + 2 by omega)
      rw [← hA] at g0 hp0
      rw [← hZ] at g1 hpl
      have l0 := HF2.out.left.cell hp0
      have r0 := HF2.out.right.cell hpl
      obtain ⟨x0, hx0⟩ : ∃ x0, x0 = le A := ⟨_, rfl⟩
      obtain ⟨x1, hx1⟩ : ∃ x1, x1 = ri Z := ⟨_, rfl⟩
      rw [← hx0] at l0
      rw [← hx1] at r0
      have HAZ := hid (And.intro hA (And.intro hZ (And.intro hx0 hx1)))
      clear hA hZ hx0 hx1 he
      have hb0 : 0 < x0 ∧ x0 ≤ 1152921504606846976 := by
       obtain ⟨e1, e2, e3, e4⟩ := HAZ.out
       have h1 := HAU.out.alt.start
       have h2 := HP.out.le_L (a := A) hp0
       have h3 := sumN_elem (f := L) (n := k) HS.out.1 hp0
       have h4 := HS.out.2.2.2
       rw [← e1] at h1
       omega
      have hb1 : 0 < x1 ∧ x1 ≤ 1152921504606846976 := by
       obtain ⟨e1, e2, e3, e4⟩ := HAZ.out
       have h1 := HAU.out.open_
       have h2 := HP.out.ri_R (b := Z) hpl
       have h3 := sumN_elem (f := Rr) (n := m) HS.out.2.1 hpl
       have h4 := HS.out.2.2.2
       have h5 := HS.out.2.2.1
       rw [← e2] at h1
       omega
      have HB01 := hid (And.intro hb0 hb1)
      clear hrp
      go_region
      go_wp2_with fail
      clear g0 g1 l0 r0 hb0 hb1
      go_loopw [12, 13] (fun d q wr => ∃ (i r : Nat) (D : Int), i ≤ t ∧ r = 2 * i + 1 ∧ d = .int .i64 D ∧ q = .int .i64 ((r + 1 : Nat) : Int) ∧ (0 < D ∧ D ≤ x0 ∧ D ≤ x1) ∧ (∀ j, j < i → D ≤ mv (p (2 * j + 2)) (p (2 * j + 1))) ∧ Below w2.heap.size w2 wr) (fun _ q _ => 2 * t + 2 - (intOf q).toNat)
      case atStart => exact ⟨0, 1, _, Nat.zero_le _, rfl, rfl, rfl, by have := HB01.out; omega, fun j h => by omega, (Below.refl _ _).drew⟩
      case round =>
       obtain ⟨i, r, D, hi, hr, rfl, rfl, hD, hmD, hbw⟩ := hrel
       have HBW := hid hbw
       have HMD := hid hmD
       have HRR := hid hr
       by_cases hit : i < t
       ·have hrt : r + 1 < 2 * t + 2 := by omega
        have ha : p (2 * i + 2) < k := HAU.out.rowAt (s := 2 * i + 2) (by omega) (by omega)
        have hz : p (2 * i + 1) < m := HAU.out.colAt (s := 2 * i + 1) (by omega) (by omega)
        have hrow := HRP.out.same (hbw.block _ HRP.out.lt)
        have g0 := hrow.cell (show r + 1 < 2 * t + 2 by omega)
        have g1 := hrow.cell (show r < 2 * t + 2 by omega)
        have hfx := HF2.out.below hbw
        obtain ⟨A', hA'⟩ : ∃ A', A' = p (2 * i + 2) := ⟨_, rfl⟩
        obtain ⟨Z', hZ'⟩ : ∃ Z', Z' = p (2 * i + 1) := ⟨_, rfl⟩
        rw [← hA'] at ha
        rw [← hZ'] at hz
        rw [show p (r + 1) = A' by rw [hA', hr]] at g0
        rw [show p r = Z' by rw [hZ', hr]] at g1
        have m0 := hfx.moved.cell ha
        have m1 := (hfx.rows A' ha).cell hz
        obtain ⟨x, hx⟩ : ∃ x, x = mv A' Z' := ⟨_, rfl⟩
        rw [← hx] at m1
        have HAX := hid (And.intro hA' (And.intro hZ' hx))
        have hxp : 0 < x := by
         have h := HAU.out.mvAt (s := 2 * i + 1) (by omega) (by omega)
         rw [show 2 * i + 1 + 1 = 2 * i + 2 from rfl, ← hA', ← hZ', ← hx] at h; exact h
        clear hA' hZ' hx hrow hfx hbw hmD hr
        go_wp2_with fail
        go_region
        go_wp2_with fail
        go_roundw
        case rel =>
         refine ⟨i + 1, r + 2, _, by omega, by have := HRR.out; omega, rfl, by go_num, by omega, fun j hj => ?_, HBW.out.drew⟩
         by_cases e : j = i
         ·subst e
          obtain ⟨e1, e2, e3⟩ := HAX.out
          rw [← e1, ← e2, ← e3]; omega
         ·have := HMD.out j (by omega); omega
        case measure => simp [intOf]; omega
       ·obtain rfl : i = t := by omega
        have hrt : ¬ r + 1 < 2 * i + 2 := by omega
        have hrow := HRP.out.same (hbw.block _ HRP.out.lt)
        have g0 := hrow.cell (show 0 < 2 * i + 2 by omega)
        have g1 := hrow.cell (show 2 * i + 1 < 2 * i + 2 by omega)
        rw [← HAZ.out.1] at g0
        rw [← HAZ.out.2.1] at g1
        have hfx := HF2.out.below hbw
        have l0 := hfx.left.cell hp0
        have l1 := hfx.left.frozen A
        have r0 := hfx.right.cell hpl
        have r1 := hfx.right.frozen Z
        rw [← HAZ.out.2.2.1] at l0
        rw [← HAZ.out.2.2.2] at r0
        have hb0 := HB01.out.1
        have hb1 := HB01.out.2
        have hfo := HFO.out
        have hglb : g ≠ lb ∧ g ≠ rb := by
         have h1 := hf0.out.left.lt
         have h2 := hf0.out.right.lt
         omega
        have HD := hid (show AugD k m mv le ri p i D from ⟨hD.1, by rw [← HAZ.out.1, ← HAZ.out.2.2.1]; exact hD.2.1, by rw [← HAZ.out.2.1, ← HAZ.out.2.2.2]; exact hD.2.2, HMD.out⟩)
        have HF3 := hid ((hfx.setLeft hfo A (x0 - D)).setRight hfo Z (x1 - D))
        have HR3 := hid ((hrow.same (Below.heap_setCell wr ⟨lb, A, none⟩ (.int .i64 (x0 - D)) g (by simpa using hglb.1))).same (Below.heap_setCell _ ⟨rb, Z, none⟩ (.int .i64 (x1 - D)) g (by simpa using hglb.2)))
        have HB3 := hid (show Below w.heap.size w ((wr.setCell ⟨lb, A, none⟩ (.int .i64 (x0 - D))).setCell ⟨rb, Z, none⟩ (.int .i64 (x1 - D))) from ((HB2.out.trans (hbw.mono HB2.out.size)).setCell (by have := hfo.l; simpa using this) _).setCell (by have := hfo.r; simpa using this) _)
        have hlr1 : lb ≠ rb := hfo.lr
        have hlr2 : ¬ rb = lb := fun e => hlr1 e.symm
        have hgl1 : ¬ g = lb := hglb.1
        have hgl2 : ¬ g = rb := hglb.2
        clear hrow hfx hbw hmD hr hfo
        go_wp2_with fail
        clear g0 g1 l0 l1 r0 r1
        go_loopw [14] (fun q wr => ∃ s : Nat, s ≤ 2 * i + 1 ∧ q = .int .i64 ((s + 1 : Nat) : Int) ∧ FlM wr lb rb mb k m (upd le A (x0 - D)) (upd ri Z (x1 - D)) (augF mv p D s) ∧ RowP wr g (2 * i + 2) (fun j => (p j : Int)) ∧ Below w.heap.size w wr) (fun q _ => 2 * i + 2 - (intOf q).toNat)
        case atStart => exact ⟨0, Nat.zero_le _, rfl, HF3.out, HR3.out, HB3.out⟩
        case round =>
         obtain ⟨s, hs, rfl, hf4, hr4, hb4⟩ := hrel
         have HF4 := hid hf4
         have HR4 := hid hr4
         have HB4 := hid hb4
         by_cases hst : s < 2 * i + 1
         ·have hst2 : s + 1 < 2 * i + 2 := by omega
          have g0 := hr4.cell (show s < 2 * i + 2 by omega)
          have g1 := hr4.cell (show s + 1 < 2 * i + 2 by omega)
          by_cases hpar : s % 2 = 0
          ·have hrm : Int.tmod ((s + 1 : Nat) : Int) 2 = 1 := by
            rw [show Int.tmod ((s + 1 : Nat) : Int) 2 = (((s + 1) % 2 : Nat) : Int) from rfl]; omega
           have ha : p s < k := HAU.out.rowAt (by omega) hpar
           have hz : p (s + 1) < m := HAU.out.colAt (by omega) (by omega)
           have hbd := augF_bd HP.out HAU.out HD.out (s := s) (by omega) ha hz
           have hLb : L (p s) ≤ 1152921504606846976 := Int.le_trans (sumN_elem (f := L) (n := k) HS.out.1 ha) HS.out.2.2.2
           have HAF := hid (augF_row (mv := mv) (p := p) (d := D) hpar)
           obtain ⟨A', hA'⟩ : ∃ A', A' = p s := ⟨_, rfl⟩
           obtain ⟨Z', hZ'⟩ : ∃ Z', Z' = p (s + 1) := ⟨_, rfl⟩
           rw [← hA', ← hZ'] at hbd HAF
           rw [← hA'] at ha g0 hLb
           rw [← hZ'] at hz g1
           have m0 := hf4.moved.cell ha
           have m1 := (hf4.rows A' ha).cell hz
           have m2 := (hf4.rows A' ha).frozen Z'
           obtain ⟨x, hx⟩ : ∃ x, x = augF mv p D s A' Z' := ⟨_, rfl⟩
           rw [← hx] at m1 hbd HAF
           have HB5 := hid (show Below w.heap.size w (wr.setCell ⟨mb + 1 + A', Z', none⟩ (.int .i64 (x + D))) from hb4.setCell (by have := HMB.out; simp only; omega) _)
           have HF5 := hid (hf4.setMoved HFO.out A' Z' (x + D))
           have HR5 := hid (show RowP (wr.setCell ⟨mb + 1 + A', Z', none⟩ (.int .i64 (x + D))) g (2 * i + 2) (fun j => (p j : Int)) from hr4.same (Below.heap_setCell _ _ _ _ (by
            have h1 := (hf0.out.rows A' ha).lt
            simp only; omega)))
           rw [← HAF.out] at HF5
           clear hf4 hr4 hb4 hA' hZ' hx
           go_wp2_with fail
           go_region
           go_wp2_with fail
           go_roundw
           case rel => exact ⟨s + 1, by omega, by go_num, HF5.out.below (Below.refl _ _).drew, HR5.out.same rfl, HB5.out.drew⟩
           case measure => simp [intOf]; omega
          ·have hpar1 : s % 2 = 1 := by omega
           have hrm : Int.tmod ((s + 1 : Nat) : Int) 2 = 0 := by
            rw [show Int.tmod ((s + 1 : Nat) : Int) 2 = (((s + 1) % 2 : Nat) : Int) from rfl]; omega
           have ha : p (s + 1) < k := HAU.out.rowAt (by omega) (by omega)
           have hz : p s < m := HAU.out.colAt (by omega) hpar1
           have hbd := augF_bd HP.out HAU.out HD.out (s := s) (by omega) ha hz
           have hbd2 := augF_bd HP.out HAU.out HD.out (s := s + 1) (by omega) ha hz
           have hLb : L (p (s + 1)) ≤ 1152921504606846976 := Int.le_trans (sumN_elem (f := L) (n := k) HS.out.1 ha) HS.out.2.2.2
           have HAF := hid (augF_col (mv := mv) (p := p) (d := D) hpar1)
           rw [HAF.out, upd2_same] at hbd2
           obtain ⟨A', hA'⟩ : ∃ A', A' = p (s + 1) := ⟨_, rfl⟩
           obtain ⟨Z', hZ'⟩ : ∃ Z', Z' = p s := ⟨_, rfl⟩
           rw [← hA', ← hZ'] at hbd hbd2 HAF
           rw [← hA'] at ha g1 hLb
           rw [← hZ'] at hz g0
           have m0 := hf4.moved.cell ha
           have m1 := (hf4.rows A' ha).cell hz
           have m2 := (hf4.rows A' ha).frozen Z'
           obtain ⟨x, hx⟩ : ∃ x, x = augF mv p D s A' Z' := ⟨_, rfl⟩
           rw [← hx] at m1 hbd hbd2 HAF
           have HB5 := hid (show Below w.heap.size w (wr.setCell ⟨mb + 1 + A', Z', none⟩ (.int .i64 (x - D))) from hb4.setCell (by have := HMB.out; simp only; omega) _)
           have HF5 := hid (hf4.setMoved HFO.out A' Z' (x - D))
           have HR5 := hid (show RowP (wr.setCell ⟨mb + 1 + A', Z', none⟩ (.int .i64 (x - D))) g (2 * i + 2) (fun j => (p j : Int)) from hr4.same (Below.heap_setCell _ _ _ _ (by
            have h1 := (hf0.out.rows A' ha).lt
            simp only; omega)))
           rw [← HAF.out] at HF5
           clear hf4 hr4 hb4 hA' hZ' hx
           go_wp2_with fail
           go_region
           go_wp2_with fail
           go_roundw
           case rel => exact ⟨s + 1, by omega, by go_num, HF5.out.below (Below.refl _ _).drew, HR5.out.same rfl, HB5.out.drew⟩
           case measure => simp [intOf]; omega
         ·obtain rfl : s = 2 * i + 1 := by omega
          clear hf4 hr4 hb4
          go_wp2_with fail
          go_roundw
          case rel =>
           have h := HP.out.augment HAU.out HD.out
           rw [← HAZ.out.1, ← HAZ.out.2.1, ← HAZ.out.2.2.1, ← HAZ.out.2.2.2] at h
           exact ⟨_, _, _, _, rfl, HF4.out, h, HB4.out⟩
          case measure =>
           rw [HF4.out.left.sum, hf0.out.left.sum, HAZ.out.2.2.1, sum_less hp0, ← HSS.out]
           omega
    ·go_wp2_with fail
     go_ret
     exact ⟨true, rfl, ⟨fun _ => HP.out.flow HS.out.2.2.1 (by rw [← HSS.out]; omega), fun _ => rfl⟩, HB1.out⟩
theorem wpList_append_nil {P : Program} {w : World} {ops : Array Oper} {rest : List Oper} {o : Oper} {a : Act} {Q : Exit → Act → World → Prop} (hgd : o.guard = none) (s x : Operand) (t : TypeId)
    (ho : o.op = .call { callee := .builtin .append, args := #[s, x], argTypes := #[t, t] }) (e : TypeId) (i : TypeInfo) (ht : P.underlying t = some (.slice e)) (hi : P.info? e = some i)
    (hs : a.eval s = .slice none 0 0) (src : Option Addr) (c : Nat) (hx : a.eval x = .slice src 0 c) (h : wpList P ops Q rest (a.put o.dst (.slice none 0 0)) w) : wpList P ops Q (o :: rest) a w := by
 refine wpList_plain hgd fun K hK => ?_
 unfold Oper.wp execOp
 simp only [ho, resolve, invoke, builtin, Sem.run_bind, Sem.run_pure, Result.andThen_ok, List.map_toArray, List.map_cons, List.map_nil, hs, hx]
 rw [run_append_zero (P := P) (w := w) w.heap.size t o.type e i i.size ht hi (.slice none 0 0) 0 [] (World.ownsRow_nil _ _ _ _) src c]
 exact hK _ _ h
theorem flows0_any (c1 c2 c4 : Option Addr) (p1 p2 p4 : Nat) (w : World) :
    Calls Tryz.prog 60 #[.slice c1 0 p1, .slice c2 0 p2, .slice c4 0 p4] w fun e w' => e = .returned (.bool true) ∧ Below w.heap.size w w' := by
 obtain ⟨i0, hi, hz0, hz1, hz2⟩ := info_parts infoInt
 have hmkn := run_make_row' (P := Tryz.prog) 137 26 (.slice none 0 0) 24 Tryz.underlying137 infoRow rfl .i64 .i64 0 (by omega) (by omega)
 rw [show ((0 : Nat) : Int) = (0 : Int) from rfl] at hmkn
 have hsum := fun x : World => sumR_any none 0 0 (fun _ => 0) x (fun k hk => absurd hk (by omega)) (fun i h => by omega) (by simp [sumN]) (by omega)
 go_enter Tryz.func60, Tryz.ntmps60
 go_wp2_with (at_builtin; refine wpList_append_nil rfl _ _ 26 rfl 3 i0 Tryz.underlying26 hi rfl _ _ rfl ?_)
 obtain ⟨W, hW⟩ : ∃ W : World, W = w.alloc (Obj.cells (madeCells #[Value.slice none 0 0] 0) 26) := ⟨_, rfl⟩
 have HWB := hid (show Below w.heap.size w W by rw [hW]; exact ba _ _)
 rw [← hW]
 clear hW hmkn
 go_loopw [24] (fun i wr => i = .int .i64 ((0 : Nat) : Int) ∧ wr = W) (fun _ _ => 0)
 case atStart => exact ⟨rfl, rfl⟩
 case round =>
  obtain ⟨rfl, rfl⟩ := hrel
  go_wp2_with fail
  go_loopw [12] (fun _ wx => wx = wr) (fun _ _ => 0)
  case atStart => rfl
  case round =>
   subst hrel
   have h1 := hsum wr
   simp only [sumN] at h1
   clear hsum
   go_wp2_with fail
   refine h1.mono ?_
   rintro e w' ⟨rfl, rfl⟩
   go_wp2_with fail
   go_ret
   exact ⟨rfl, HWB.out⟩
end Go.Proofs.YtfgpjfgejhahfaaGreatDoor
