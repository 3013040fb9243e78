/-
  NARROWER THAN 'FOR EVERY INPUT', by the rows' own cells (each row's printed sentence says how): BisimLaws: loops, laid · BisimGraphs: loops, laid.
  DERIVED. THE GIVEN ROWS OF THIS SEAT. 2 by the template 'for every input the law returns true; each argument reads behind the call as it read before'; 0 by the template 'total and deterministic' (their statements: YtcekilcgpgjooaaGreatDoorTotals.lean).
  GIVEN WITH THE SEED: the statements are not yours to turn. If you find one false, say at which input.
  Laid BY PROGRAM, IN A SANDBOX (cutbox-rows.mjs): the forced cells as the released guide's own fill.sh prints them over the translation a72e0bd5622b4118… (all of the seat's roots in one cut). By AI agents, Wed Nov 11 2026. No macro, syntax, notation, axiom, sorry.
-/
import Derived.Test.YtcekilcgpgjooaaGreatDoorChecked
import GoSem.Claim
import GoSem.ClaimJoined
import GoSem.ClaimMapViews
import Derived.JoinedTies
import Derived.KernelRfl
namespace Go.Proofs.YtcekilcgpgjooaaGreatDoor
/- THE CELL 'sum', in the pinned program and in every row, IS THE sha256 OF THE DUMP (.gsa) THAT YtcekilcgpgjooaaGreatDoorProg.lean LOADS. Nothing in Lean hashes anything: it is a label: what it is worth is what the hold of that sum in a sandbox is worth. -/
noncomputable def Tryz.pinned : Pinned := { name := "ytcekilcgpgjooaagreatdoor", sum := "a72e0bd5622b41183e2d36f79cc9bcc33552d07048956055c2902b4c524a2dd3", checked := Tryz.checked }
namespace Rows
def none {H : Type} : Left H := { results := [], args := [] }

/- WHAT THE LISTED PACKAGE-LEVEL VARIABLES READ AS WHEN THE CALL BEGINS. Each datum BY PROGRAM (the guide's laid-datum.mjs) off the statement by which the dump's own 'gosem.cut.vars' lays the variable. In a bare row this is a premise. The card (YtcekilcgpgjooaaGreatDoorCards.lean) ties it to the program's text. -/
def laid_ectype_functor_kinds {H : Type} : DataW H := .agg [.agg [.lit (.int .i64 0), .lit (.int .i64 0), .lit (.int .i64 0), .lit (.string [88])], .agg [.lit (.int .i64 0), .lit (.int .i64 1), .lit (.int .i64 16), .lit (.string [])], .agg [.lit (.int .i64 2), .lit (.int .i64 0), .lit (.int .i64 0), .lit (.string [42])], .agg [.lit (.int .i64 2), .lit (.int .i64 0), .lit (.int .i64 0), .lit (.string [43])], .agg [.lit (.int .i64 1), .lit (.int .i64 1), .lit (.int .i64 4), .lit (.string [94])], .agg [.lit (.int .i64 1), .lit (.int .i64 0), .lit (.int .i64 0), .lit (.string [80])], .agg [.lit (.int .i64 1), .lit (.int .i64 0), .lit (.int .i64 0), .lit (.string [66])], .agg [.lit (.int .i64 1), .lit (.int .i64 0), .lit (.int .i64 0), .lit (.string [68])]]

/-- 'ectypelaw06.BisimLaws': WHATEVER THE INPUT: true; the input reads as it did. -/
def bisimLawsSpec : ChangeSpec := { name := "bisimLaws", fn := fun _ => fun
  | [d1, d2, d3, d4] => { results := [.lit (.bool true)], args := [d1, d2, d3, d4] }
  | _ => none }
def bisimLawsRow : OpenClaim := { program := "ytcekilcgpgjooaagreatdoor", sum := "a72e0bd5622b41183e2d36f79cc9bcc33552d07048956055c2902b4c524a2dd3", func := "ectype/ectypelaw06.BisimLaws", spec := "bisimLaws", unfollowed := true, recurses := true, named := ["ectype/functor.kinds"], loops := true, plainKeys := false, apart := false, laid := [("ectype/functor.kinds", laid_ectype_functor_kinds)] }
def BisimLawsSaid : Prop := bisimLawsRow.holds Tryz.pinned (OpenSpec.ofChange bisimLawsSpec)

/-- ITS FALSE NEIGHBOUR: 'it returns false'. Refute it at one input. -/
def bisimLawsWrong : ChangeSpec := { name := "bisimLaws", fn := fun _ => fun
  | [d1, d2, d3, d4] => { results := [.lit (.bool false)], args := [d1, d2, d3, d4] }
  | _ => none }
def BisimLawsWrongFalsely : Prop := bisimLawsRow.holds Tryz.pinned (OpenSpec.ofChange bisimLawsWrong)

/-- 'ectypelaw06.BisimGraphs': WHATEVER THE INPUT: true; the input reads as it did. -/
def bisimGraphsSpec : ChangeSpec := { name := "bisimGraphs", fn := fun _ => fun
  | [d1, d2, d3, d4] => { results := [.lit (.bool true)], args := [d1, d2, d3, d4] }
  | _ => none }
def bisimGraphsRow : OpenClaim := { program := "ytcekilcgpgjooaagreatdoor", sum := "a72e0bd5622b41183e2d36f79cc9bcc33552d07048956055c2902b4c524a2dd3", func := "ectype/ectypelaw06.BisimGraphs", spec := "bisimGraphs", unfollowed := true, recurses := true, named := ["ectype/functor.kinds"], loops := true, plainKeys := false, apart := false, laid := [("ectype/functor.kinds", laid_ectype_functor_kinds)] }
def BisimGraphsSaid : Prop := bisimGraphsRow.holds Tryz.pinned (OpenSpec.ofChange bisimGraphsSpec)

/-- ITS FALSE NEIGHBOUR: 'it returns false'. Refute it at one input. -/
def bisimGraphsWrong : ChangeSpec := { name := "bisimGraphs", fn := fun _ => fun
  | [d1, d2, d3, d4] => { results := [.lit (.bool false)], args := [d1, d2, d3, d4] }
  | _ => none }
def BisimGraphsWrongFalsely : Prop := bisimGraphsRow.holds Tryz.pinned (OpenSpec.ofChange bisimGraphsWrong)

/- THE SECOND FORM. 'bulk': how many values and letters a reading holds, each counted each time it is reached (what is shared counts as often as it is met; a slice's spare places count too). A statement '..UptoSaid' is the law's where the arguments, and the package variables that the reading takes, are together of bulk at most 1048576: NARROWER than '..Said'. Prove '..Said' where nothing that the law and all that it calls make is longer than what came in: it says more and counts as full. Else prove '..UptoSaid'. A law counts once. -/
mutual
def uptoBulk {H : Type} : DataW H → Nat
  | .lit (.string bytes) => bytes.length + 1
  | .lit _ => 1
  | .nil => 1
  | .ptr d => uptoBulk d + 1
  | .slice elems spare => uptoBulkAll elems + uptoBulkAll spare + 1
  | .agg parts => uptoBulkAll parts + 1
  | .iface _ d => uptoBulk d + 1
  | .map entries => uptoBulkEntries entries + 1
  | .held _ => 1
def uptoBulkAll {H : Type} : List (DataW H) → Nat
  | [] => 0
  | d :: r => uptoBulk d + uptoBulkAll r
def uptoBulkEntries {H : Type} : List (Lit × DataW H) → Nat
  | [] => 0
  | x :: r => uptoBulkEntry x + uptoBulkEntries r
def uptoBulkEntry {H : Type} : Lit × DataW H → Nat
  | (.string bytes, d) => bytes.length + uptoBulk d + 1
  | (_, d) => uptoBulk d + 1
 end
def uptoSmall : (H : Type) → List (DataW H) → Bool := fun _ ds => decide (uptoBulkAll ds ≤ 1048576)
def OpenSpec.upto (s : _root_.Go.ChangeSpec) : _root_.Go.OpenSpec := { _root_.Go.OpenSpec.ofChange s with cond := some uptoSmall }

/-- 'ectypelaw06.BisimLaws', WHERE WHAT IT READS IS OF BULK AT MOST 1048576: true; the input reads as it did. -/
def bisimLawsUptoRow : OpenClaim := { program := "ytcekilcgpgjooaagreatdoor", sum := "a72e0bd5622b41183e2d36f79cc9bcc33552d07048956055c2902b4c524a2dd3", func := "ectype/ectypelaw06.BisimLaws", spec := "bisimLaws", unfollowed := true, recurses := true, named := ["ectype/functor.kinds"], loops := true, plainKeys := false, apart := false, laid := [("ectype/functor.kinds", laid_ectype_functor_kinds)], narrowed := true }
def BisimLawsUptoSaid : Prop := bisimLawsUptoRow.holds Tryz.pinned (OpenSpec.upto bisimLawsSpec)

/-- 'ectypelaw06.BisimGraphs', WHERE WHAT IT READS IS OF BULK AT MOST 1048576: true; the input reads as it did. -/
def bisimGraphsUptoRow : OpenClaim := { program := "ytcekilcgpgjooaagreatdoor", sum := "a72e0bd5622b41183e2d36f79cc9bcc33552d07048956055c2902b4c524a2dd3", func := "ectype/ectypelaw06.BisimGraphs", spec := "bisimGraphs", unfollowed := true, recurses := true, named := ["ectype/functor.kinds"], loops := true, plainKeys := false, apart := false, laid := [("ectype/functor.kinds", laid_ectype_functor_kinds)], narrowed := true }
def BisimGraphsUptoSaid : Prop := bisimGraphsUptoRow.holds Tryz.pinned (OpenSpec.upto bisimGraphsSpec)

end Rows
end Go.Proofs.YtcekilcgpgjooaaGreatDoor
