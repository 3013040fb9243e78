/-
  Proved here: for each functor, FunctorOwn returns true, and its argument reads behind the call as before; the listed package-level variables are tied to the program's text, and no condition is left beside the statement's own.
-/
import Derived.Test.YtioimhnebjiicaaDoorOwnA
import Derived.Test.YtioimhnebjiicaaDoorBackD
namespace Go.Proofs.YtioimhnebjiicaaDoor
open Go.ChangeShapes Go.WideShapes Go.ChangeAt Go.RowKit

set_option maxRecDepth 100000 in
theorem own_lifted (os : Os) (started : os.Started) (H : Type) (enc : TypeId × Value → H) :
    ReturnsInHanded {} Tryd.checked os 6 .any (fun w args => (Rows.functorOwnSpec.pre enc Tryd.prog Tryd.f6 [] false w args ∧ laidMetH Tryd.prog laids w) ∧ sizedMet enc Tryd.prog Tryd.f6 (OpenSpec.ofChange Rows.functorOwnSpec) false w args)
      (Rows.functorOwnSpec.post enc Tryd.prog Tryd.f6 false true false false) := by
  refine returnsInHanded_of_change_and (C := Tryd.checked) (X := fun w _ => laidMetH Tryd.prog laids w) (fun _ _ _ hh h => h.of_heap hh) own started (by kernel_rfl) Tryd.func6
    (ChangeSpec.witness_shaped (enc := enc) (C := Tryd.checked) (os := os) (X := fun w _ => laidMetH Tryd.prog laids w) false (World.doorLaid Tryd.prog 400 os) #[.agg #[.int .i64 0, .int .i64 0, .slice none 0 0]] 8 rfl (World.shaped_of_RefB (by kernel_rfl) (by kernel_rfl)) (by kernel_rfl) (by kernel_rfl) (by kernel_rfl) (door_met os _)) ?_
  intro W base args ds gs before hval0 hW _ _ hL _
  have hval : ∀ (j : Nat) t v, Tryd.f6.params[j]? = some t → args[j]? = some v → Value.okWide Tryd.prog W .any base t v := hval0
  have hW' := hW
  obtain ⟨p, q, hA0, hV, rfl, hfz, hnd⟩ := hW
  have hA : DataW.TrodAll enc Tryd.prog W 0 (fun _ => true) true Tryd.f6.params.toList args.toList ds p := hA0
  have hAk := hA
  rw [Tryd.params6] at hA hval
  obtain ⟨v0, d0, rfl, rfl, h0⟩ := trodAll_one hA
  obtain ⟨rfl, rfl⟩ := trodVars_none hV
  obtain ⟨k, n, a, cap, t, rfl, hs⟩ := open_functor (hval 0 24 v0 rfl rfl) h0 (fun b o hm => hfz b o (List.mem_append_left _ hm))
  have hk := kinds_of_laid hL
  clear hA0 hval0
  simp only [List.append_nil] at hW' hAk
  refine (own_any AnyS t k n a cap W hs hk).mono fun e W' ⟨he, hb⟩ => ?_
  subst he
  exact ⟨_, rfl, shut_true rfl (by rw [Tryd.params6]; exact fun t ht => readables t (by simp at ht ⊢; simp [ht])) (by kernel_rfl) rfl rfl rfl hAk hW' hb⟩

theorem own_holds : Rows.FunctorOwnSaid :=
  OpenClaim.holds_of_wide 6 Tryd.f6 rfl rfl rfl rfl rfl rfl rfl ⟨rfl, rfl, rfl, rfl, rfl⟩ rfl rfl rfl rfl rfl (by kernel_rfl) Tryd.func6 (by kernel_rfl)
    (of_decide_eq_true (by kernel_rfl)) (by unfold Func.isWrapper; first | (rw [if_pos (by decide +kernel)]; kernel_rfl) | (rw [if_neg (by decide +kernel)]; exact ⟨rfl, rfl⟩))
    (fun os started H enc _ => own_lifted os started H enc)

/-- No function modifies its arguments, and results are new memory: the statement with its listed variables tied to the program's text. -/
theorem functorOwn_card : Rows.FunctorOwnCardSaid :=
  Claim7.holds_tied_plain_at .later [] [.data, .data, .data, .data] true (true, "98cd7f1e193ef46deff3fb4ec420662417e36e83e22346983bdde16229ed1d96") false
    own_holds (fun _ h => by cases h) (by kernel_rfl) (fun _ h => by cases h) functorOwn_row_tie rfl ⟨rfl, rfl⟩ (by kernel_rfl) rfl
    (fun f fn hf hfn => by
      obtain rfl : f = 6 := Option.some.inj ((show Tryd.prog.funcNamed "ectype/ectypelaw01.FunctorOwn" = some 6 by kernel_rfl).symm.trans hf) |>.symm
      obtain rfl : fn = Tryd.f6 := (Option.some.inj (Tryd.func6.symm.trans hfn)).symm
      exact ⟨by kernel_rfl, fun j t ht => by
        rw [Tryd.params6] at ht
        exact noStand [24] (by kernel_rfl) t (by simpa using Array.mem_of_getElem? ht)⟩)
    (by kernel_rfl)
#print axioms functorOwn_card
end Go.Proofs.YtioimhnebjiicaaDoor
