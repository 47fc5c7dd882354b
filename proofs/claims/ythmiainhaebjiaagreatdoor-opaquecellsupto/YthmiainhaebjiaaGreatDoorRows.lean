/-
  NARROWER THAN 'FOR EVERY INPUT', by the rows' own cells (each row's printed sentence says how): OpaqueCells: laid · OpaqueMeans: laid.
  DERIVED. THE GIVEN ROWS OF THIS SEAT. 2 by the template 'for every input the law returns true; each argument reads behind the call as it read before'; 0 by the template 'total and deterministic' (their statements: YthmiainhaebjiaaGreatDoorTotals.lean).
  GIVEN WITH THE SEED: the statements are not yours to turn. If you find one false, say at which input.
  Laid BY PROGRAM, IN A SANDBOX (cutbox-rows.mjs): the forced cells as the released guide's own fill.sh prints them over the translation b8940fb10b2b55e0… (all of the seat's roots in one cut). By AI agents, Wed Nov 11 2026. No macro, syntax, notation, axiom, sorry.
-/
import Derived.Test.YthmiainhaebjiaaGreatDoorChecked
import GoSem.Claim
import GoSem.ClaimJoined
import GoSem.ClaimMapViews
import Derived.JoinedTies
import Derived.KernelRfl
namespace Go.Proofs.YthmiainhaebjiaaGreatDoor
/- THE CELL 'sum', in the pinned program and in every row, IS THE sha256 OF THE DUMP (.gsa) THAT YthmiainhaebjiaaGreatDoorProg.lean LOADS. Nothing in Lean hashes anything: it is a label: what it is worth is what the hold of that sum in a sandbox is worth. -/
noncomputable def Tryz.pinned : Pinned := { name := "ythmiainhaebjiaagreatdoor", sum := "b8940fb10b2b55e00f3d604271a24010fb7b022cc8c15e5cf7480d08c805ffad", checked := Tryz.checked }
namespace Rows
def none {H : Type} : Left H := { results := [], args := [] }

/- WHAT THE LISTED PACKAGE-LEVEL VARIABLES READ AS WHEN THE CALL BEGINS. Each datum BY PROGRAM (the guide's laid-datum.mjs) off the statement by which the dump's own 'gosem.cut.vars' lays the variable. In a bare row this is a premise. The card (YthmiainhaebjiaaGreatDoorCards.lean) ties it to the program's text. -/
def laid_parley_events_shapes {H : Type} : DataW H := .agg [.agg [.lit (.string []), .lit (.bool false), .lit (.bool false), .lit (.bool false)], .agg [.lit (.string [98, 101, 103, 105, 110]), .lit (.bool false), .lit (.bool true), .lit (.bool false)], .agg [.lit (.string [114, 101, 97, 100]), .lit (.bool true), .lit (.bool true), .lit (.bool false)], .agg [.lit (.string [119, 114, 105, 116, 101]), .lit (.bool true), .lit (.bool true), .lit (.bool false)], .agg [.lit (.string [109, 111, 118, 101, 100]), .lit (.bool false), .lit (.bool true), .lit (.bool false)], .agg [.lit (.string [108, 111, 99, 107, 101, 100]), .lit (.bool false), .lit (.bool false), .lit (.bool false)], .agg [.lit (.string [99, 111, 109, 109, 105, 116, 116, 101, 100]), .lit (.bool false), .lit (.bool true), .lit (.bool false)], .agg [.lit (.string [115, 116, 97, 108, 101]), .lit (.bool false), .lit (.bool false), .lit (.bool false)], .agg [.lit (.string [97, 98, 111, 114, 116, 101, 100]), .lit (.bool false), .lit (.bool false), .lit (.bool false)], .agg [.lit (.string [102, 97, 105, 108, 101, 100]), .lit (.bool false), .lit (.bool false), .lit (.bool true)], .agg [.lit (.string [108, 111, 97, 100, 101, 100]), .lit (.bool true), .lit (.bool true), .lit (.bool false)], .agg [.lit (.string [115, 116, 111, 114, 101, 100]), .lit (.bool true), .lit (.bool true), .lit (.bool false)], .agg [.lit (.string [104, 97, 108, 116, 101, 100]), .lit (.bool false), .lit (.bool false), .lit (.bool false)]]
def laid_parley_events_turns {H : Type} : DataW H := .agg [.agg [.lit (.int .i64 0), .lit (.int .i64 0), .lit (.int .i64 0), .lit (.int .i64 0), .lit (.int .i64 0), .lit (.int .i64 0), .lit (.int .i64 0), .lit (.int .i64 0), .lit (.int .i64 0), .lit (.int .i64 0), .lit (.int .i64 0), .lit (.int .i64 0), .lit (.int .i64 0)], .agg [.lit (.int .i64 0), .lit (.int .i64 2), .lit (.int .i64 0), .lit (.int .i64 0), .lit (.int .i64 0), .lit (.int .i64 0), .lit (.int .i64 0), .lit (.int .i64 0), .lit (.int .i64 0), .lit (.int .i64 4), .lit (.int .i64 1), .lit (.int .i64 1), .lit (.int .i64 4)], .agg [.lit (.int .i64 0), .lit (.int .i64 0), .lit (.int .i64 2), .lit (.int .i64 2), .lit (.int .i64 2), .lit (.int .i64 3), .lit (.int .i64 1), .lit (.int .i64 1), .lit (.int .i64 1), .lit (.int .i64 4), .lit (.int .i64 0), .lit (.int .i64 0), .lit (.int .i64 0)], .agg [.lit (.int .i64 0), .lit (.int .i64 0), .lit (.int .i64 0), .lit (.int .i64 0), .lit (.int .i64 0), .lit (.int .i64 0), .lit (.int .i64 1), .lit (.int .i64 0), .lit (.int .i64 0), .lit (.int .i64 0), .lit (.int .i64 0), .lit (.int .i64 0), .lit (.int .i64 0)], .agg [.lit (.int .i64 0), .lit (.int .i64 0), .lit (.int .i64 0), .lit (.int .i64 0), .lit (.int .i64 0), .lit (.int .i64 0), .lit (.int .i64 0), .lit (.int .i64 0), .lit (.int .i64 0), .lit (.int .i64 0), .lit (.int .i64 0), .lit (.int .i64 0), .lit (.int .i64 0)]]

/-- 'parleylaw16.OpaqueCells': WHATEVER THE INPUT: true; the input reads as it did. -/
def opaqueCellsSpec : ChangeSpec := { name := "opaqueCells", fn := fun _ => fun
  | [d1, d2, d3, d4] => { results := [.lit (.bool true)], args := [d1, d2, d3, d4] }
  | _ => none }
def opaqueCellsRow : OpenClaim := { program := "ythmiainhaebjiaagreatdoor", sum := "b8940fb10b2b55e00f3d604271a24010fb7b022cc8c15e5cf7480d08c805ffad", func := "parley/parleylaw16.OpaqueCells", spec := "opaqueCells", unfollowed := true, recurses := true, named := ["parley/events.shapes", "parley/events.turns"], plainKeys := false, apart := false, laid := [("parley/events.shapes", laid_parley_events_shapes), ("parley/events.turns", laid_parley_events_turns)] }
def OpaqueCellsSaid : Prop := opaqueCellsRow.holds Tryz.pinned (OpenSpec.ofChange opaqueCellsSpec)

/-- ITS FALSE NEIGHBOUR: 'it returns false'. Refute it at one input. -/
def opaqueCellsWrong : ChangeSpec := { name := "opaqueCells", fn := fun _ => fun
  | [d1, d2, d3, d4] => { results := [.lit (.bool false)], args := [d1, d2, d3, d4] }
  | _ => none }
def OpaqueCellsWrongFalsely : Prop := opaqueCellsRow.holds Tryz.pinned (OpenSpec.ofChange opaqueCellsWrong)

/-- 'parleylaw16.OpaqueMeans': WHATEVER THE INPUT: true; the input reads as it did. -/
def opaqueMeansSpec : ChangeSpec := { name := "opaqueMeans", fn := fun _ => fun
  | [d1, d2] => { results := [.lit (.bool true)], args := [d1, d2] }
  | _ => none }
def opaqueMeansRow : OpenClaim := { program := "ythmiainhaebjiaagreatdoor", sum := "b8940fb10b2b55e00f3d604271a24010fb7b022cc8c15e5cf7480d08c805ffad", func := "parley/parleylaw16.OpaqueMeans", spec := "opaqueMeans", unfollowed := true, recurses := true, named := ["parley/events.shapes", "parley/events.turns"], plainKeys := false, apart := false, laid := [("parley/events.shapes", laid_parley_events_shapes), ("parley/events.turns", laid_parley_events_turns)] }
def OpaqueMeansSaid : Prop := opaqueMeansRow.holds Tryz.pinned (OpenSpec.ofChange opaqueMeansSpec)

/-- ITS FALSE NEIGHBOUR: 'it returns false'. Refute it at one input. -/
def opaqueMeansWrong : ChangeSpec := { name := "opaqueMeans", fn := fun _ => fun
  | [d1, d2] => { results := [.lit (.bool false)], args := [d1, d2] }
  | _ => none }
def OpaqueMeansWrongFalsely : Prop := opaqueMeansRow.holds Tryz.pinned (OpenSpec.ofChange opaqueMeansWrong)

/- THE SECOND FORM. 'bulk': how many values and letters a reading holds, each counted each time it is reached (what is shared counts as often as it is met; a slice's spare places count too). A statement '..UptoSaid' is the law's where the arguments, and the package variables that the reading takes, are together of bulk at most 1048576: NARROWER than '..Said'. Prove '..Said' where nothing that the law and all that it calls make is longer than what came in: it says more and counts as full. Else prove '..UptoSaid'. A law counts once. -/
mutual
def uptoBulk {H : Type} : DataW H → Nat
  | .lit (.string bytes) => bytes.length + 1
  | .lit _ => 1
  | .nil => 1
  | .ptr d => uptoBulk d + 1
  | .slice elems spare => uptoBulkAll elems + uptoBulkAll spare + 1
  | .agg parts => uptoBulkAll parts + 1
  | .iface _ d => uptoBulk d + 1
  | .map entries => uptoBulkEntries entries + 1
  | .held _ => 1
def uptoBulkAll {H : Type} : List (DataW H) → Nat
  | [] => 0
  | d :: r => uptoBulk d + uptoBulkAll r
def uptoBulkEntries {H : Type} : List (Lit × DataW H) → Nat
  | [] => 0
  | x :: r => uptoBulkEntry x + uptoBulkEntries r
def uptoBulkEntry {H : Type} : Lit × DataW H → Nat
  | (.string bytes, d) => bytes.length + uptoBulk d + 1
  | (_, d) => uptoBulk d + 1
 end
def uptoSmall : (H : Type) → List (DataW H) → Bool := fun _ ds => decide (uptoBulkAll ds ≤ 1048576)
def OpenSpec.upto (s : _root_.Go.ChangeSpec) : _root_.Go.OpenSpec := { _root_.Go.OpenSpec.ofChange s with cond := some uptoSmall }

/-- 'parleylaw16.OpaqueCells', WHERE WHAT IT READS IS OF BULK AT MOST 1048576: true; the input reads as it did. -/
def opaqueCellsUptoRow : OpenClaim := { program := "ythmiainhaebjiaagreatdoor", sum := "b8940fb10b2b55e00f3d604271a24010fb7b022cc8c15e5cf7480d08c805ffad", func := "parley/parleylaw16.OpaqueCells", spec := "opaqueCells", unfollowed := true, recurses := true, named := ["parley/events.shapes", "parley/events.turns"], plainKeys := false, apart := false, laid := [("parley/events.shapes", laid_parley_events_shapes), ("parley/events.turns", laid_parley_events_turns)], narrowed := true }
def OpaqueCellsUptoSaid : Prop := opaqueCellsUptoRow.holds Tryz.pinned (OpenSpec.upto opaqueCellsSpec)

/-- 'parleylaw16.OpaqueMeans', WHERE WHAT IT READS IS OF BULK AT MOST 1048576: true; the input reads as it did. -/
def opaqueMeansUptoRow : OpenClaim := { program := "ythmiainhaebjiaagreatdoor", sum := "b8940fb10b2b55e00f3d604271a24010fb7b022cc8c15e5cf7480d08c805ffad", func := "parley/parleylaw16.OpaqueMeans", spec := "opaqueMeans", unfollowed := true, recurses := true, named := ["parley/events.shapes", "parley/events.turns"], plainKeys := false, apart := false, laid := [("parley/events.shapes", laid_parley_events_shapes), ("parley/events.turns", laid_parley_events_turns)], narrowed := true }
def OpaqueMeansUptoSaid : Prop := opaqueMeansUptoRow.holds Tryz.pinned (OpenSpec.upto opaqueMeansSpec)

end Rows
end Go.Proofs.YthmiainhaebjiaaGreatDoor
