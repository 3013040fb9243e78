/-
  Proved here: for each two functors, FunctorForms returns true, and its arguments read behind the call as before; the listed package-level variables are tied to the program's text, and no condition is left beside the statement's own.
-/
import Derived.Test.YtioimhnebjiicaaDoorFoA
import Derived.Test.YtioimhnebjiicaaDoorBackD
namespace Go.Proofs.YtioimhnebjiicaaDoor
open Go.ChangeShapes Go.WideShapes Go.ChangeAt Go.RowKit

set_option maxRecDepth 100000 in
theorem forms_lifted (os : Os) (started : os.Started) (H : Type) (enc : TypeId × Value → H) :
    ReturnsInHanded {} Tryd.checked os 3 .any (fun w args => (Rows.functorFormsSpec.pre enc Tryd.prog Tryd.f3 [] false w args ∧ laidMetH Tryd.prog laids w) ∧ sizedMet enc Tryd.prog Tryd.f3 (OpenSpec.ofChange Rows.functorFormsSpec) false w args)
      (Rows.functorFormsSpec.post enc Tryd.prog Tryd.f3 false true false false) := by
  refine returnsInHanded_of_change_and (C := Tryd.checked) (X := fun w _ => laidMetH Tryd.prog laids w) (fun _ _ _ hh h => h.of_heap hh) own started (by kernel_rfl) Tryd.func3
    (ChangeSpec.witness_shaped (enc := enc) (C := Tryd.checked) (os := os) (X := fun w _ => laidMetH Tryd.prog laids w) false (World.doorLaid Tryd.prog 400 os) #[.agg #[.int .i64 0, .int .i64 0, .slice none 0 0], .agg #[.int .i64 0, .int .i64 0, .slice none 0 0]] 8 rfl (World.shaped_of_RefB (by kernel_rfl) (by kernel_rfl)) (by kernel_rfl) (by kernel_rfl) (by kernel_rfl) (door_met os _)) ?_
  intro W base args ds gs before hval0 hW _ _ hL _
  have hval : ∀ (j : Nat) t v, Tryd.f3.params[j]? = some t → args[j]? = some v → Value.okWide Tryd.prog W .any base t v := hval0
  have hW' := hW
  obtain ⟨p, q, hA0, hV, rfl, hfz, hnd⟩ := hW
  have hA : DataW.TrodAll enc Tryd.prog W 0 (fun _ => true) true Tryd.f3.params.toList args.toList ds p := hA0
  have hAk := hA
  rw [Tryd.params3] at hA hval
  obtain ⟨v0, v1, d0, d1, p0, p1, rfl, rfl, rfl, h0, h1⟩ := trodAll_two hA
  obtain ⟨rfl, rfl⟩ := trodVars_none hV
  obtain ⟨k, n, a, cap, t, rfl, hs⟩ := open_functor (hval 0 24 v0 rfl rfl) h0 (fun b o hm => hfz b o (List.mem_append_left _ (List.mem_append_left _ hm)))
  obtain ⟨k', n', a', cap', t', rfl, hs'⟩ := open_functor (hval 1 24 v1 rfl rfl) h1 (fun b o hm => hfz b o (List.mem_append_left _ (List.mem_append_right _ hm)))
  have hk := kinds_of_laid hL
  clear hA0 hval0
  simp only [List.append_nil] at hW' hAk
  refine (forms_any AnyS AnyS t t' k n k' n' a a' cap cap' W hs hs' hk).mono fun e W' ⟨he, hb⟩ => ?_
  subst he
  exact ⟨_, rfl, shut_true rfl (by rw [Tryd.params3]; exact fun t ht => readables t (by simp at ht ⊢; simp [ht])) (by kernel_rfl) rfl rfl rfl hAk hW' hb⟩

theorem forms_holds : Rows.FunctorFormsSaid :=
  OpenClaim.holds_of_wide 3 Tryd.f3 rfl rfl rfl rfl rfl rfl rfl ⟨rfl, rfl, rfl, rfl, rfl⟩ rfl rfl rfl rfl rfl (by kernel_rfl) Tryd.func3 (by kernel_rfl)
    (of_decide_eq_true (by kernel_rfl)) (by unfold Func.isWrapper; first | (rw [if_pos (by decide +kernel)]; kernel_rfl) | (rw [if_neg (by decide +kernel)]; exact ⟨rfl, rfl⟩))
    (fun os started H enc _ => forms_lifted os started H enc)

/-- Check, Size, Same, Polynomial and Plain report what the document defines: the statement with its listed variables tied to the program's text. -/
theorem functorForms_card : Rows.FunctorFormsCardSaid :=
  Claim7.holds_tied_plain_at .later [] [.data, .data, .data, .data] true (true, "98cd7f1e193ef46deff3fb4ec420662417e36e83e22346983bdde16229ed1d96") false
    forms_holds (fun _ h => by cases h) (by kernel_rfl) (fun _ h => by cases h) functorForms_row_tie rfl ⟨rfl, rfl⟩ (by kernel_rfl) rfl
    (fun f fn hf hfn => by
      obtain rfl : f = 3 := Option.some.inj ((show Tryd.prog.funcNamed "ectype/ectypelaw01.FunctorForms" = some 3 by kernel_rfl).symm.trans hf) |>.symm
      obtain rfl : fn = Tryd.f3 := (Option.some.inj (Tryd.func3.symm.trans hfn)).symm
      exact ⟨by kernel_rfl, fun j t ht => by
        rw [Tryd.params3] at ht
        exact noStand [24, 24] (by kernel_rfl) t (by simpa using Array.mem_of_getElem? ht)⟩)
    (by kernel_rfl)
#print axioms functorForms_card
end Go.Proofs.YtioimhnebjiicaaDoor
