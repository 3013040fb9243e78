/-
  Proved here: each argument of type functor.F that the statement admits is a finite tree that lies in memory.
-/
import Derived.Test.YtioimhnebjiicaaDoorBackB
import Derived.ProofKit
import Derived.LaidMore
import Derived.OpenShut
import Derived.Stop.Joined
import Derived.Lib.SmallJoins
namespace Go.Proofs.YtioimhnebjiicaaDoor
open Go.RowKit

abbrev AnyS : Nat → Nat → Prop := fun _ _ => True

theorem add_zero' (a : Addr) : a.add 0 = a := by simp [Addr.add]

/-- Trees out of their elements. -/
theorem build_forest {w : World} (b o len : Nat) (hz : ∀ j, j < 3 * len → w.frozen? ⟨b, o + j, none⟩ = false) (h : ∀ i, i < len → ∃ k n a cap t, w.cell? ⟨b, o + 3 * i, none⟩ = some (.int .i64 k) ∧ w.cell? ⟨b, o + 3 * i + 1, none⟩ = some (.int .i64 n) ∧ w.cell? ⟨b, o + 3 * i + 2, none⟩ = some (.slice a t.len cap) ∧ Sl AnyS w a t) :
    ∃ t : T, t.len = len ∧ t.At AnyS w b o := by
  have key : ∀ m, m ≤ len → ∃ t : T, t.len = m ∧ t.At AnyS w b (o + 3 * (len - m)) := by
    intro m
    induction m with
    | zero => intro _; exact ⟨.nil, rfl, trivial⟩
    | succ m ih =>
      intro hm
      obtain ⟨r, h1, h2⟩ := ih (by omega)
      obtain ⟨k, n, a, cap, t, h3, h4, h5, h6⟩ := h (len - (m + 1)) (by omega)
      refine ⟨.cons k n t r, by simp [T.len, h1], ⟨trivial, hz _ (by omega), hz (3 * (len - (m + 1)) + 1) (by omega)⟩, h3, h4, ⟨a, cap, h5, h6.1, h6.2⟩, ?_⟩
      rw [show o + 3 * (len - (m + 1)) + 3 = o + 3 * (len - m) by omega]
      exact h2
  have := key len (Nat.le_refl _)
  simpa using this

set_option maxRecDepth 100000 in
theorem open_kids {H : Type} {enc : TypeId × Value → H} {w : World} : ∀ (fuel : Nat) (cs : List Value) (x : DataW H × List MemPlace), DataW.trod enc Tryd.prog w 0 (fun _ => true) true fuel 22 cs = some x → w.noneFrozen x.2 →
    ∃ a cap t, cs = [.slice a (T.len t) cap] ∧ Sl AnyS w a t := by
  intro fuel
  induction fuel using Nat.strongRecOn with
  | _ fuel ih =>
    intro cs x h hnf
    rcases DataW.trod_slice Tryd.underlying22 h with ⟨rfl, _⟩ | ⟨a, len, cap, elems, rest, n, rfl, rfl, hx, _, hl, hm, hlen, hel, _, _⟩
    · exact ⟨none, 0, .nil, rfl, by simp [T.len], rfl⟩
    · rw [Tryd.cells24] at hx
      have hz : ∀ j, j < 3 * len → w.frozen? ⟨a.block, a.off + j, none⟩ = false := fun j hj => hnf _ _ (by
        rw [hx]
        exact List.mem_append_left _ (MemPlace.mem_row.2 ⟨j, by omega, rfl⟩))
      have hel2 : ∀ i, i < len → ∃ k m a' cap' t, w.cell? ((a.add (i * 3)).add 0) = some (.int .i64 k) ∧ w.cell? ((a.add (i * 3)).add 1) = some (.int .i64 m) ∧ w.cell? ((a.add (i * 3)).add 2) = some (.slice a' (T.len t) cap') ∧ Sl AnyS w a' t := by
        intro i hi
        have h1 := hel i hi
        rw [Tryd.cells24, List.getElem?_eq_getElem (by omega)] at h1
        obtain ⟨cs', h2, h3⟩ := Option.bind_eq_some_iff.1 h1
        obtain ⟨_, hcl, hcell⟩ := World.cells?_some h2
        obtain ⟨xs, n', rfl, hxe, _, hxl, hf⟩ := DataW.trod_struct Tryd.underlying24 h3
        have hxl3 : xs.length = 3 := hxl
        match cs', hcl with
        | [c0, c1, c2], _ =>
          have f0 := hf 0 _ rfl
          have f1 := hf 1 _ rfl
          have f2 := hf 2 _ rfl
          rw [List.getElem?_eq_getElem (by omega)] at f0 f1 f2
          obtain ⟨k, e0, _, _⟩ := DataW.trod_int Tryd.underlying3 f0
          obtain ⟨m, e1, _, _⟩ := DataW.trod_int Tryd.underlying3 f1
          obtain ⟨a', cap', t, e2, hs⟩ := ih n' (by omega) _ _ f2 (fun b' o' hp => hnf b' o' (by
            rw [hx]
            refine List.mem_append_right _ (List.mem_flatMap.2 ⟨elems[i], List.mem_append_left _ (List.getElem_mem _), ?_⟩)
            rw [hxe]
            exact List.mem_flatMap.2 ⟨xs[2], List.getElem_mem _, hp⟩))
          have q0 : List.take (Tryd.prog.cellsOf 3) [c0, c1, c2] = [.int .i64 k] := e0
          have q1 : List.take (Tryd.prog.cellsOf 3) [c1, c2] = [.int .i64 m] := e1
          have q2 : List.take (Tryd.prog.cellsOf 22) [c2] = [.slice a' (T.len t) cap'] := e2
          rw [Tryd.cells3] at q0 q1
          rw [Tryd.cells22] at q2
          simp at q0 q1 q2
          subst q0 q1 q2
          exact ⟨k, m, a', cap', t, by simpa using hcell 0 (by omega), by simpa using hcell 1 (by omega), by simpa using hcell 2 (by omega), hs⟩
      by_cases hz : len = 0
      · subst hz
        exact ⟨some a, cap, .nil, rfl, by simp [T.len], Or.inl rfl, trivial⟩
      · obtain ⟨b, o, s⟩ := a
        have hs : s = none := by
          obtain ⟨k, m, a', cap', t, h0, _⟩ := hel2 0 (by omega)
          cases s with
          | none => rfl
          | some s =>
            simp [Addr.add, World.cell?] at h0
            split at h0 <;> cases h0
        subst hs
        obtain ⟨t, h1, h2⟩ := build_forest (w := w) b o len hz (by
          intro i hi
          obtain ⟨k, m, a', cap', t, h0, h1, h2, h3⟩ := hel2 i hi
          refine ⟨k, m, a', cap', t, ?_, ?_, ?_, h3⟩
          · have e : ((⟨b, o, none⟩ : Addr).add (i * 3)).add 0 = ⟨b, o + 3 * i, none⟩ := by
              by_cases hi0 : i = 0
              · subst hi0; simp [Addr.add]
              · have h3 : ¬ i * 3 = 0 := by omega
                have h4 : 3 * i = i * 3 := by omega
                rw [h4]; simp [Addr.add, h3]
            rwa [e] at h0
          · have e : ((⟨b, o, none⟩ : Addr).add (i * 3)).add 1 = ⟨b, o + 3 * i + 1, none⟩ := by
              by_cases hi0 : i = 0
              · subst hi0; simp [Addr.add]
              · have h3 : ¬ i * 3 = 0 := by omega
                have h4 : 3 * i = i * 3 := by omega
                rw [h4]; simp [Addr.add, h3]
            rwa [e] at h1
          · have e : ((⟨b, o, none⟩ : Addr).add (i * 3)).add 2 = ⟨b, o + 3 * i + 2, none⟩ := by
              by_cases hi0 : i = 0
              · subst hi0; simp [Addr.add]
              · have h3 : ¬ i * 3 = 0 := by omega
                have h4 : 3 * i = i * 3 := by omega
                rw [h4]; simp [Addr.add, h3]
            rwa [e] at h2)
        subst h1
        exact ⟨_, cap, t, rfl, by unfold maxLen at hm; omega, Or.inr rfl, h2⟩
end Go.Proofs.YtioimhnebjiicaaDoor
