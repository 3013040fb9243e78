/-
  Proved here: for every functor and every number below 256, FunctorBack returns true, and its arguments read behind the call as before; the listed package-level variables are tied to the program's text, and no condition is left beside the statement's own.
-/
import Derived.Test.YtioimhnebjiicaaDoorBackC
import Derived.Test.YtioimhnebjiicaaDoorCards
import Derived.Test.YtioimhnebjiicaaDoorTie
import Derived.SevenTiedAt
namespace Go.Proofs.YtioimhnebjiicaaDoor
open Go

theorem noStand : ∀ (ts : List TypeId), (ts.all fun u => !Tryd.prog.wantsStandIn u) = true → ∀ t ∈ ts, Tryd.prog.wantsStandIn t = false := fun ts h t ht => by
  simpa using List.all_eq_true.1 h t ht

/-- Each functor's text, read again, is that functor: the statement with its listed variables tied to the program's text. -/
theorem functorBack_card : Rows.FunctorBackCardSaid :=
  Claim7.holds_tied_plain_at .later [] [.data, .data, .data, .data] true (true, "98cd7f1e193ef46deff3fb4ec420662417e36e83e22346983bdde16229ed1d96") false
    back_holds (fun _ h => by cases h) (by kernel_rfl) (fun _ h => by cases h) functorBack_row_tie rfl ⟨rfl, rfl⟩ (by kernel_rfl) rfl
    (fun f fn hf hfn => by
      obtain rfl : f = 5 := Option.some.inj ((show Tryd.prog.funcNamed "ectype/ectypelaw01.FunctorBack" = some 5 by kernel_rfl).symm.trans hf) |>.symm
      obtain rfl : fn = Tryd.f5 := (Option.some.inj (Tryd.func5.symm.trans hfn)).symm
      exact ⟨by kernel_rfl, fun j t ht => by
        rw [Tryd.params5] at ht
        exact noStand [24, 5] (by kernel_rfl) t (by simpa using Array.mem_of_getElem? ht)⟩)
    (by kernel_rfl)
#print axioms functorBack_card
end Go.Proofs.YtioimhnebjiicaaDoor
