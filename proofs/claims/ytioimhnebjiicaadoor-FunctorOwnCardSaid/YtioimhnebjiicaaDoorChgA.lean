/-
  Proved here: the law's function change only turns numbers of the new tree that it is handed, for each such tree.
-/
import Derived.Test.YtioimhnebjiicaaDoorCopC
namespace Go.Proofs.YtioimhnebjiicaaDoor
open Go.RowKit

/-- Only numbers have changed, in blocks from lo on. -/
structure Chg (lo : Nat) (w w' : World) : Prop where
  bl : Below lo w w'
  third : ∀ b o v, o % 3 = 2 → w.cell? ⟨b, o, none⟩ = some v → w'.cell? ⟨b, o, none⟩ = some v
  int : ∀ b o k, w.cell? ⟨b, o, none⟩ = some (.int .i64 k) → ∃ k', w'.cell? ⟨b, o, none⟩ = some (.int .i64 k')
  fz : ∀ a, w'.frozen? a = w.frozen? a

theorem Chg.refl (lo : Nat) (w : World) : Chg lo w w := ⟨Below.refl _ _, fun _ _ _ _ h => h, fun _ _ k h => ⟨k, h⟩, fun _ => rfl⟩
theorem Chg.trans {lo : Nat} {a b c : World} (h : Chg lo a b) (h' : Chg lo b c) : Chg lo a c :=
  ⟨h.bl.trans h'.bl, fun b o v ho hc => h'.third b o v ho (h.third b o v ho hc), fun b o k hc => by obtain ⟨k1, h1⟩ := h.int b o k hc; exact h'.int b o k1 h1, fun a => (h'.fz a).trans (h.fz a)⟩

theorem Chg.set {lo : Nat} {w : World} {b o : Nat} {k v : Int} (hb : lo ≤ b) (ho : o % 3 ≠ 2) (hc : w.cell? ⟨b, o, none⟩ = some (.int .i64 k)) : Chg lo w (w.setCell ⟨b, o, none⟩ (.int .i64 v)) := by
  refine ⟨(Below.refl _ _).setCell hb _, fun b' o' v' ho' hc' => ?_, fun b' o' k' hc' => ?_, fun a => by simp⟩
  · rw [World.cell?_setCell_other _ _ _ _ (by intro e; cases e; exact ho ho')]; exact hc'
  · by_cases e : (⟨b, o, none⟩ : Addr) = ⟨b', o', none⟩
    · rw [← e]; exact ⟨v, World.cell?_setCell_same _ _ _ hc⟩
    · rw [World.cell?_setCell_other _ _ _ _ e]; exact ⟨k', hc'⟩

/-- The trees' shape lies in the world, whatever their numbers are. -/
def T.Sk (lo : Nat) (w : World) : T → Nat → Nat → Prop
  | .nil, _, _ => True
  | .cons _ _ kids rest, b, o => (lo ≤ b ∧ o % 3 = 0 ∧ w.frozen? ⟨b, o, none⟩ = false ∧ w.frozen? ⟨b, o + 1, none⟩ = false) ∧ (∃ k, w.cell? ⟨b, o, none⟩ = some (.int .i64 k)) ∧ (∃ n, w.cell? ⟨b, o + 1, none⟩ = some (.int .i64 n)) ∧
      (∃ a cap, w.cell? ⟨b, o + 2, none⟩ = some (.slice a kids.len cap) ∧ kids.len ≤ 9223372036854775807 ∧
        match a with
        | none => kids = .nil
        | some p => (kids = .nil ∨ p.spot = none) ∧ kids.Sk lo w p.block p.off) ∧ rest.Sk lo w b (o + 3)

def SkSl (lo : Nat) (w : World) (a : Option Addr) (t : T) : Prop :=
  t.len ≤ 9223372036854775807 ∧ match a with
    | none => t = .nil
    | some p => (t = .nil ∨ p.spot = none) ∧ t.Sk lo w p.block p.off

theorem T.At.sk {lo : Nat} {w : World} {t : T} : ∀ {b o : Nat}, t.At (SP lo) w b o → t.Sk lo w b o := by
  induction t with
  | nil => intro b o _; trivial
  | cons k n kids rest ihk ihr =>
    intro b o ⟨h1, h2, h3, ⟨a, cap, h4, h5, h6⟩, h7⟩
    refine ⟨⟨h1.1.1, h1.1.2, h1.2.1, h1.2.2⟩, ⟨_, h2⟩, ⟨_, h3⟩, ⟨a, cap, h4, h5, ?_⟩, ihr h7⟩
    cases a with
    | none => exact h6
    | some p => exact ⟨h6.1, ihk h6.2⟩

theorem Sl.sk {lo : Nat} {w : World} {a : Option Addr} {t : T} (h : Sl (SP lo) w a t) : SkSl lo w a t := by
  refine ⟨h.1, ?_⟩
  have h2 := h.2
  cases a with
  | none => exact h2
  | some p => exact ⟨h2.1, h2.2.sk⟩

theorem T.Sk.chg {lo : Nat} {w w' : World} (hc : Chg lo w w') {t : T} : ∀ {b o : Nat}, t.Sk lo w b o → t.Sk lo w' b o := by
  induction t with
  | nil => intro b o _; trivial
  | cons k n kids rest ihk ihr =>
    intro b o ⟨h1, ⟨_, h2⟩, ⟨_, h3⟩, ⟨a, cap, h4, h5, h6⟩, h7⟩
    refine ⟨⟨h1.1, h1.2.1, by rw [hc.fz]; exact h1.2.2.1, by rw [hc.fz]; exact h1.2.2.2⟩, hc.int _ _ _ h2, hc.int _ _ _ h3, ⟨a, cap, hc.third _ _ _ (by omega) h4, h5, ?_⟩, ihr h7⟩
    cases a with
    | none => exact h6
    | some p => exact ⟨h6.1, ihk h6.2⟩

theorem SkSl.chg {lo : Nat} {w w' : World} (hc : Chg lo w w') {a : Option Addr} {t : T} (h : SkSl lo w a t) : SkSl lo w' a t := by
  refine ⟨h.1, ?_⟩
  have h2 := h.2
  cases a with
  | none => exact h2
  | some p => exact ⟨h2.1, h2.2.chg hc⟩

theorem T.Sk.drop {lo : Nat} {w : World} {t : T} : ∀ {b o : Nat}, t.Sk lo w b o → ∀ i, (t.drop i).Sk lo w b (o + i * 3) := by
  induction t with
  | nil => intro b o _ i; cases i <;> exact trivial
  | cons k n kids rest _ ihr =>
    intro b o h i
    cases i with
    | zero => simpa using h
    | succ i =>
      have := ihr h.2.2.2.2 i
      rw [show o + (i + 1) * 3 = o + 3 + i * 3 by omega]
      exact this

theorem SkSl.addr {lo : Nat} {w : World} {a : Option Addr} {t : T} (h : SkSl lo w a t) {i : Nat} (hi : i < t.len) : ∃ b o, a = some ⟨b, o, none⟩ ∧ t.Sk lo w b o := by
  have h2 := h.2
  cases a with
  | none => subst h2; simp [T.len] at hi
  | some p =>
    obtain ⟨b, o, s⟩ := p
    obtain ⟨h3, h4⟩ := h2
    rcases h3 with h3 | h3
    · subst h3; simp [T.len] at hi
    · simp only at h3
      subst h3
      exact ⟨b, o, rfl, h4⟩

set_option maxRecDepth 100000 in
set_option maxHeartbeats 800000 in
theorem change_any (lo : Nat) : ∀ (t : T) (b o : Nat) (k n : Int) (a : Option Addr) (cap : Nat) (w : World), lo ≤ b → o % 3 = 0 → w.frozen? ⟨b, o, none⟩ = false → w.frozen? ⟨b, o + 1, none⟩ = false →
    w.cell? ⟨b, o, none⟩ = some (.int .i64 k) → w.cell? ⟨b, o + 1, none⟩ = some (.int .i64 n) → w.cell? ⟨b, o + 2, none⟩ = some (.slice a t.len cap) → SkSl lo w a t →
    Calls Tryd.prog 24 #[.pointer (some ⟨b, o, none⟩)] w fun e w' => (∃ v, e = .returned v) ∧ Chg lo w w' := by
  refine T.ind ?_
  intro t ih b o k n a cap w hb ho z0 z1 c0 c1 c2 hs
  have IH := Lib.hid ih
  have hlen := hs.1
  clear ih
  go_enter Tryd.func24, Tryd.ntmps24
  go_wp2_with fail
  go_loopw [2, 8] (fun _ i wr => ∃ j : Nat, j ≤ t.len ∧ i = .int .i64 j ∧ Chg lo w wr) (fun _ i _ => t.len - (intOf i).toNat)
  case atStart => exact ⟨0, Nat.zero_le _, rfl, Chg.refl _ _⟩
  case round =>
    obtain ⟨j, hj, rfl, hc⟩ := hrel
    have d2 := hc.third _ _ _ (by omega) c2
    by_cases hlt : j < t.len
    · have hs' := hs.chg hc
      obtain ⟨b1, o1, rfl, hsk⟩ := hs'.addr hlt
      obtain ⟨k1, n1, kids, rest, hd, hd1⟩ := T.drop_lt hlt
      have hg := hsk.drop j
      rw [hd] at hg
      obtain ⟨⟨g1, g2, g3, g4⟩, ⟨k2, g5⟩, ⟨n2, g6⟩, ⟨a2, cap2, g7, g8, g9⟩, _⟩ := hg
      have HC := Lib.hid (IH.out _ _ _ _ _ hd b1 (o1 + j * 3) k2 n2 a2 cap2 wr g1 g2 g3 g4 g5 g6 g7 ⟨g8, g9⟩)
      clear hd hd1 hs hs' hsk IH g1 g2 g3 g4 g5 g6 g7 g8 g9
      go_wp2_with fail
      refine HC.out.mono ?_
      rintro e w' ⟨⟨v, rfl⟩, hc'⟩
      go_wp2_with fail
      go_roundw
      case rel => exact ⟨j + 1, by omega, by go_num, hc.trans hc'⟩
      case measure => simp [intOf]; omega
    · obtain ⟨k2, d0⟩ := hc.int _ _ _ c0
      obtain ⟨n2, d1⟩ := hc.int _ _ _ c1
      have y0 := (hc.fz _).trans z0
      have y1 := (hc.fz _).trans z1
      have hc1 := hc.trans (Chg.set (v := -7) hb (by omega) d0)
      have e1 : (wr.setCell ⟨b, o, none⟩ (.int .i64 (-7))).cell? ⟨b, o + 1, none⟩ = some (.int .i64 n2) := by
        rw [World.cell?_setCell_other _ _ _ _ (by intro e; cases e)]; exact d1
      have hc2 := hc1.trans (Chg.set (v := -7) hb (by omega) e1)
      clear IH hs
      go_wp2_with fail
      exact bodyPost_end (v := .tuple #[]) (results_none rfl _ _ _) rfl ⟨⟨_, rfl⟩, hc2⟩
end Go.Proofs.YtioimhnebjiicaaDoor
