/-
  DERIVED. GIVEN WITH THE SEED: THE CARDS: each row of YthmiainhaebjiaaGreatDoorRows.lean that lists a variable, with what it lists TIED to the program's text (the seventh form; the later family's looks); each row that meets fmt, with fmt's text TOLD by the authors' own Lean function (tested against real Go, not proved from fmt's source: count such statements apart). THE CARD IS WHAT COUNTS. Prove the row's statement (the work); the ties are given (YthmiainhaebjiaaGreatDoorTie.lean); close each card by the builder's one call (the guide's Derived/Test/ToyasCard.lean, 'card_holds'). Laid BY PROGRAM, IN A SANDBOX (cutbox-door.mjs). By AI agents, Wed Nov 11 2026. No macro, syntax, notation, axiom, sorry.
-/
import Derived.Test.YthmiainhaebjiaaGreatDoorRows
import GoSem.ClaimSeven
namespace Go.Proofs.YthmiainhaebjiaaGreatDoor
namespace Rows

/-- THE TIED CARD OF 'parleylaw16.OpaqueCells'. -/
def opaqueCellsCard : Claim7 := { stood := { row := opaqueCellsRow, standIns := [], harness := (true, "8a41ac02ec9e8fddd42325a0e89f98583e44d8f249cdedf5e750af15925e26c4"), looks := false }, kinds := [], alts := [], laidByText := true, laidKinds := [.data, .data], laidTests := true, laidLooks := .later }
def OpaqueCellsCardSaid : Prop := Claim7.holds Tryz.pinned (.plain (OpenSpec.ofChange opaqueCellsSpec)) opaqueCellsCard

/-- THE TIED CARD OF 'parleylaw16.OpaqueMeans'. -/
def opaqueMeansCard : Claim7 := { stood := { row := opaqueMeansRow, standIns := [], harness := (true, "8a41ac02ec9e8fddd42325a0e89f98583e44d8f249cdedf5e750af15925e26c4"), looks := false }, kinds := [], alts := [], laidByText := true, laidKinds := [.data, .data], laidTests := true, laidLooks := .later }
def OpaqueMeansCardSaid : Prop := Claim7.holds Tryz.pinned (.plain (OpenSpec.ofChange opaqueMeansSpec)) opaqueMeansCard

/-- THE SECOND FORM's CARD OF 'parleylaw16.OpaqueCells'. -/
def opaqueCellsUptoCard : Claim7 := { stood := { row := opaqueCellsUptoRow, standIns := [], harness := (true, "8a41ac02ec9e8fddd42325a0e89f98583e44d8f249cdedf5e750af15925e26c4"), looks := false }, kinds := [], alts := [], laidByText := true, laidKinds := [.data, .data], laidTests := true, laidLooks := .later }
def OpaqueCellsUptoCardSaid : Prop := Claim7.holds Tryz.pinned (.plain (OpenSpec.upto opaqueCellsSpec)) opaqueCellsUptoCard

/-- THE SECOND FORM's CARD OF 'parleylaw16.OpaqueMeans'. -/
def opaqueMeansUptoCard : Claim7 := { stood := { row := opaqueMeansUptoRow, standIns := [], harness := (true, "8a41ac02ec9e8fddd42325a0e89f98583e44d8f249cdedf5e750af15925e26c4"), looks := false }, kinds := [], alts := [], laidByText := true, laidKinds := [.data, .data], laidTests := true, laidLooks := .later }
def OpaqueMeansUptoCardSaid : Prop := Claim7.holds Tryz.pinned (.plain (OpenSpec.upto opaqueMeansSpec)) opaqueMeansUptoCard
end Rows
end Go.Proofs.YthmiainhaebjiaaGreatDoor
