/-
  NARROWER THAN 'FOR EVERY INPUT', by the rows' own cells (each row's printed sentence says how): CheckPrograms: laid · CheckFollowers: laid · CheckScripts: laid · CheckWalks: laid · CheckMore: laid · CheckNames: laid.
  DERIVED. THE GIVEN ROWS OF THIS SEAT. 6 by the template 'for every input the law returns true; each argument reads behind the call as it read before'; 0 by the template 'total and deterministic' (their statements: YtljapgoeomedkaaDoorTotals.lean).
  GIVEN WITH THE SEED: the statements are not yours to turn. If you find one false, say at which input.
  Laid BY PROGRAM, IN A SANDBOX (cutbox-rows.mjs): the forced cells as the released guide's own fill.sh prints them over the translation 7afb72e90505d2d3… (all of the seat's roots in one cut). By AI agents, Wed Nov 11 2026. No macro, syntax, notation, axiom, sorry.
-/
import Derived.Test.YtljapgoeomedkaaDoorChecked
import GoSem.Claim
import GoSem.ClaimJoined
import GoSem.ClaimMapViews
import Derived.JoinedTies
import Derived.KernelRfl
namespace Go.Proofs.YtljapgoeomedkaaDoor
/- THE CELL 'sum', in the pinned program and in every row, IS THE sha256 OF THE DUMP (.gsa) THAT YtljapgoeomedkaaDoorProg.lean LOADS. Nothing in Lean hashes anything: it is a label: what it is worth is what the hold of that sum in a sandbox is worth. -/
noncomputable def Tryd.pinned : Pinned := { name := "ytljapgoeomedkaadoor", sum := "7afb72e90505d2d377fcacf2bc6bc8fc17faa03ab7885b379bf0c0bf8da20f34", checked := Tryd.checked }
namespace Rows
def none {H : Type} : Left H := { results := [], args := [] }

/- WHAT THE LISTED PACKAGE-LEVEL VARIABLES READ AS WHEN THE CALL BEGINS. Each datum BY PROGRAM (the guide's laid-datum.mjs) off the statement by which the dump's own 'gosem.cut.vars' lays the variable. In a bare row this is a premise. The card (YtljapgoeomedkaaDoorCards.lean) ties it to the program's text. -/
def laid_parley_check_neither {H : Type} : DataW H := .agg [.lit (.bool false), .lit (.bool false)]
def laid_parley_check_both {H : Type} : DataW H := .agg [.lit (.bool true), .lit (.bool true)]

/-- 'parleylaw10.CheckPrograms': WHATEVER THE INPUT: true; the input reads as it did. -/
def checkProgramsSpec : ChangeSpec := { name := "checkPrograms", fn := fun _ => fun
  | [d] => { results := [.lit (.bool true)], args := [d] }
  | _ => none }
def checkProgramsRow : OpenClaim := { program := "ytljapgoeomedkaadoor", sum := "7afb72e90505d2d377fcacf2bc6bc8fc17faa03ab7885b379bf0c0bf8da20f34", func := "parley/parleylaw10.CheckPrograms", spec := "checkPrograms", recurses := true, named := ["parley/check.neither", "parley/check.both"], apart := false, laid := [("parley/check.neither", laid_parley_check_neither), ("parley/check.both", laid_parley_check_both)] }
def CheckProgramsSaid : Prop := checkProgramsRow.holds Tryd.pinned (OpenSpec.ofChange checkProgramsSpec)

/-- ITS FALSE NEIGHBOUR: 'it returns false'. Refute it at one input. -/
def checkProgramsWrong : ChangeSpec := { name := "checkPrograms", fn := fun _ => fun
  | [d] => { results := [.lit (.bool false)], args := [d] }
  | _ => none }
def CheckProgramsWrongFalsely : Prop := checkProgramsRow.holds Tryd.pinned (OpenSpec.ofChange checkProgramsWrong)

/-- 'parleylaw10.CheckFollowers': WHATEVER THE INPUT: true; the input reads as it did. -/
def checkFollowersSpec : ChangeSpec := { name := "checkFollowers", fn := fun _ => fun
  | [d1, d2] => { results := [.lit (.bool true)], args := [d1, d2] }
  | _ => none }
def checkFollowersRow : OpenClaim := { program := "ytljapgoeomedkaadoor", sum := "7afb72e90505d2d377fcacf2bc6bc8fc17faa03ab7885b379bf0c0bf8da20f34", func := "parley/parleylaw10.CheckFollowers", spec := "checkFollowers", recurses := true, named := ["parley/check.neither", "parley/check.both"], apart := false, laid := [("parley/check.neither", laid_parley_check_neither), ("parley/check.both", laid_parley_check_both)] }
def CheckFollowersSaid : Prop := checkFollowersRow.holds Tryd.pinned (OpenSpec.ofChange checkFollowersSpec)

/-- ITS FALSE NEIGHBOUR: 'it returns false'. Refute it at one input. -/
def checkFollowersWrong : ChangeSpec := { name := "checkFollowers", fn := fun _ => fun
  | [d1, d2] => { results := [.lit (.bool false)], args := [d1, d2] }
  | _ => none }
def CheckFollowersWrongFalsely : Prop := checkFollowersRow.holds Tryd.pinned (OpenSpec.ofChange checkFollowersWrong)

/-- 'parleylaw10.CheckScripts': WHATEVER THE INPUT: true; the input reads as it did. -/
def checkScriptsSpec : ChangeSpec := { name := "checkScripts", fn := fun _ => fun
  | [d] => { results := [.lit (.bool true)], args := [d] }
  | _ => none }
def checkScriptsRow : OpenClaim := { program := "ytljapgoeomedkaadoor", sum := "7afb72e90505d2d377fcacf2bc6bc8fc17faa03ab7885b379bf0c0bf8da20f34", func := "parley/parleylaw10.CheckScripts", spec := "checkScripts", recurses := true, named := ["parley/check.neither", "parley/check.both"], apart := false, laid := [("parley/check.neither", laid_parley_check_neither), ("parley/check.both", laid_parley_check_both)] }
def CheckScriptsSaid : Prop := checkScriptsRow.holds Tryd.pinned (OpenSpec.ofChange checkScriptsSpec)

/-- ITS FALSE NEIGHBOUR: 'it returns false'. Refute it at one input. -/
def checkScriptsWrong : ChangeSpec := { name := "checkScripts", fn := fun _ => fun
  | [d] => { results := [.lit (.bool false)], args := [d] }
  | _ => none }
def CheckScriptsWrongFalsely : Prop := checkScriptsRow.holds Tryd.pinned (OpenSpec.ofChange checkScriptsWrong)

/-- 'parleylaw10.CheckWalks': WHATEVER THE INPUT: true; the input reads as it did. -/
def checkWalksSpec : ChangeSpec := { name := "checkWalks", fn := fun _ => fun
  | [d1, d2] => { results := [.lit (.bool true)], args := [d1, d2] }
  | _ => none }
def checkWalksRow : OpenClaim := { program := "ytljapgoeomedkaadoor", sum := "7afb72e90505d2d377fcacf2bc6bc8fc17faa03ab7885b379bf0c0bf8da20f34", func := "parley/parleylaw10.CheckWalks", spec := "checkWalks", recurses := true, named := ["parley/check.neither", "parley/check.both"], apart := false, laid := [("parley/check.neither", laid_parley_check_neither), ("parley/check.both", laid_parley_check_both)] }
def CheckWalksSaid : Prop := checkWalksRow.holds Tryd.pinned (OpenSpec.ofChange checkWalksSpec)

/-- ITS FALSE NEIGHBOUR: 'it returns false'. Refute it at one input. -/
def checkWalksWrong : ChangeSpec := { name := "checkWalks", fn := fun _ => fun
  | [d1, d2] => { results := [.lit (.bool false)], args := [d1, d2] }
  | _ => none }
def CheckWalksWrongFalsely : Prop := checkWalksRow.holds Tryd.pinned (OpenSpec.ofChange checkWalksWrong)

/-- 'parleylaw10.CheckMore': WHATEVER THE INPUT: true; the input reads as it did. -/
def checkMoreSpec : ChangeSpec := { name := "checkMore", fn := fun _ => fun
  | [d] => { results := [.lit (.bool true)], args := [d] }
  | _ => none }
def checkMoreRow : OpenClaim := { program := "ytljapgoeomedkaadoor", sum := "7afb72e90505d2d377fcacf2bc6bc8fc17faa03ab7885b379bf0c0bf8da20f34", func := "parley/parleylaw10.CheckMore", spec := "checkMore", recurses := true, named := ["parley/check.neither", "parley/check.both"], apart := false, laid := [("parley/check.neither", laid_parley_check_neither), ("parley/check.both", laid_parley_check_both)] }
def CheckMoreSaid : Prop := checkMoreRow.holds Tryd.pinned (OpenSpec.ofChange checkMoreSpec)

/-- ITS FALSE NEIGHBOUR: 'it returns false'. Refute it at one input. -/
def checkMoreWrong : ChangeSpec := { name := "checkMore", fn := fun _ => fun
  | [d] => { results := [.lit (.bool false)], args := [d] }
  | _ => none }
def CheckMoreWrongFalsely : Prop := checkMoreRow.holds Tryd.pinned (OpenSpec.ofChange checkMoreWrong)

/-- 'parleylaw10.CheckNames': WHATEVER THE INPUT: true; the input reads as it did. -/
def checkNamesSpec : ChangeSpec := { name := "checkNames", fn := fun _ => fun
  | [] => { results := [.lit (.bool true)], args := [] }
  | _ => none }
def checkNamesRow : OpenClaim := { program := "ytljapgoeomedkaadoor", sum := "7afb72e90505d2d377fcacf2bc6bc8fc17faa03ab7885b379bf0c0bf8da20f34", func := "parley/parleylaw10.CheckNames", spec := "checkNames", recurses := true, named := ["parley/check.neither", "parley/check.both"], apart := false, laid := [("parley/check.neither", laid_parley_check_neither), ("parley/check.both", laid_parley_check_both)] }
def CheckNamesSaid : Prop := checkNamesRow.holds Tryd.pinned (OpenSpec.ofChange checkNamesSpec)

/-- ITS FALSE NEIGHBOUR: 'it returns false'. Refute it at one input. -/
def checkNamesWrong : ChangeSpec := { name := "checkNames", fn := fun _ => fun
  | [] => { results := [.lit (.bool false)], args := [] }
  | _ => none }
def CheckNamesWrongFalsely : Prop := checkNamesRow.holds Tryd.pinned (OpenSpec.ofChange checkNamesWrong)

/- THE SECOND FORM. 'bulk': how many values and letters a reading holds, each counted each time it is reached (what is shared counts as often as it is met; a slice's spare places count too). A statement '..UptoSaid' is the law's where the arguments, and the package variables that the reading takes, are together of bulk at most 1048576: NARROWER than '..Said'. Prove '..Said' where nothing that the law and all that it calls make is longer than what came in: it says more and counts as full. Else prove '..UptoSaid'. A law counts once. -/
mutual
def uptoBulk {H : Type} : DataW H → Nat
  | .lit (.string bytes) => bytes.length + 1
  | .lit _ => 1
  | .nil => 1
  | .ptr d => uptoBulk d + 1
  | .slice elems spare => uptoBulkAll elems + uptoBulkAll spare + 1
  | .agg parts => uptoBulkAll parts + 1
  | .iface _ d => uptoBulk d + 1
  | .map entries => uptoBulkEntries entries + 1
  | .held _ => 1
def uptoBulkAll {H : Type} : List (DataW H) → Nat
  | [] => 0
  | d :: r => uptoBulk d + uptoBulkAll r
def uptoBulkEntries {H : Type} : List (Lit × DataW H) → Nat
  | [] => 0
  | x :: r => uptoBulkEntry x + uptoBulkEntries r
def uptoBulkEntry {H : Type} : Lit × DataW H → Nat
  | (.string bytes, d) => bytes.length + uptoBulk d + 1
  | (_, d) => uptoBulk d + 1
 end
def uptoSmall : (H : Type) → List (DataW H) → Bool := fun _ ds => decide (uptoBulkAll ds ≤ 1048576)
def OpenSpec.upto (s : _root_.Go.ChangeSpec) : _root_.Go.OpenSpec := { _root_.Go.OpenSpec.ofChange s with cond := some uptoSmall }

/-- 'parleylaw10.CheckPrograms', WHERE WHAT IT READS IS OF BULK AT MOST 1048576: true; the input reads as it did. -/
def checkProgramsUptoRow : OpenClaim := { program := "ytljapgoeomedkaadoor", sum := "7afb72e90505d2d377fcacf2bc6bc8fc17faa03ab7885b379bf0c0bf8da20f34", func := "parley/parleylaw10.CheckPrograms", spec := "checkPrograms", recurses := true, named := ["parley/check.neither", "parley/check.both"], apart := false, laid := [("parley/check.neither", laid_parley_check_neither), ("parley/check.both", laid_parley_check_both)], narrowed := true }
def CheckProgramsUptoSaid : Prop := checkProgramsUptoRow.holds Tryd.pinned (OpenSpec.upto checkProgramsSpec)

/-- 'parleylaw10.CheckFollowers', WHERE WHAT IT READS IS OF BULK AT MOST 1048576: true; the input reads as it did. -/
def checkFollowersUptoRow : OpenClaim := { program := "ytljapgoeomedkaadoor", sum := "7afb72e90505d2d377fcacf2bc6bc8fc17faa03ab7885b379bf0c0bf8da20f34", func := "parley/parleylaw10.CheckFollowers", spec := "checkFollowers", recurses := true, named := ["parley/check.neither", "parley/check.both"], apart := false, laid := [("parley/check.neither", laid_parley_check_neither), ("parley/check.both", laid_parley_check_both)], narrowed := true }
def CheckFollowersUptoSaid : Prop := checkFollowersUptoRow.holds Tryd.pinned (OpenSpec.upto checkFollowersSpec)

/-- 'parleylaw10.CheckScripts', WHERE WHAT IT READS IS OF BULK AT MOST 1048576: true; the input reads as it did. -/
def checkScriptsUptoRow : OpenClaim := { program := "ytljapgoeomedkaadoor", sum := "7afb72e90505d2d377fcacf2bc6bc8fc17faa03ab7885b379bf0c0bf8da20f34", func := "parley/parleylaw10.CheckScripts", spec := "checkScripts", recurses := true, named := ["parley/check.neither", "parley/check.both"], apart := false, laid := [("parley/check.neither", laid_parley_check_neither), ("parley/check.both", laid_parley_check_both)], narrowed := true }
def CheckScriptsUptoSaid : Prop := checkScriptsUptoRow.holds Tryd.pinned (OpenSpec.upto checkScriptsSpec)

/-- 'parleylaw10.CheckWalks', WHERE WHAT IT READS IS OF BULK AT MOST 1048576: true; the input reads as it did. -/
def checkWalksUptoRow : OpenClaim := { program := "ytljapgoeomedkaadoor", sum := "7afb72e90505d2d377fcacf2bc6bc8fc17faa03ab7885b379bf0c0bf8da20f34", func := "parley/parleylaw10.CheckWalks", spec := "checkWalks", recurses := true, named := ["parley/check.neither", "parley/check.both"], apart := false, laid := [("parley/check.neither", laid_parley_check_neither), ("parley/check.both", laid_parley_check_both)], narrowed := true }
def CheckWalksUptoSaid : Prop := checkWalksUptoRow.holds Tryd.pinned (OpenSpec.upto checkWalksSpec)

/-- 'parleylaw10.CheckMore', WHERE WHAT IT READS IS OF BULK AT MOST 1048576: true; the input reads as it did. -/
def checkMoreUptoRow : OpenClaim := { program := "ytljapgoeomedkaadoor", sum := "7afb72e90505d2d377fcacf2bc6bc8fc17faa03ab7885b379bf0c0bf8da20f34", func := "parley/parleylaw10.CheckMore", spec := "checkMore", recurses := true, named := ["parley/check.neither", "parley/check.both"], apart := false, laid := [("parley/check.neither", laid_parley_check_neither), ("parley/check.both", laid_parley_check_both)], narrowed := true }
def CheckMoreUptoSaid : Prop := checkMoreUptoRow.holds Tryd.pinned (OpenSpec.upto checkMoreSpec)

/-- 'parleylaw10.CheckNames', WHERE WHAT IT READS IS OF BULK AT MOST 1048576: true; the input reads as it did. -/
def checkNamesUptoRow : OpenClaim := { program := "ytljapgoeomedkaadoor", sum := "7afb72e90505d2d377fcacf2bc6bc8fc17faa03ab7885b379bf0c0bf8da20f34", func := "parley/parleylaw10.CheckNames", spec := "checkNames", recurses := true, named := ["parley/check.neither", "parley/check.both"], apart := false, laid := [("parley/check.neither", laid_parley_check_neither), ("parley/check.both", laid_parley_check_both)], narrowed := true }
def CheckNamesUptoSaid : Prop := checkNamesUptoRow.holds Tryd.pinned (OpenSpec.upto checkNamesSpec)

end Rows
end Go.Proofs.YtljapgoeomedkaaDoor
