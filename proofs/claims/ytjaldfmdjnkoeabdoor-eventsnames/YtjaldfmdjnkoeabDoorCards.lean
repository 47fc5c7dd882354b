/-
  DERIVED. GIVEN WITH THE SEED: THE CARDS: each row of YtjaldfmdjnkoeabDoorRows.lean that lists a variable, with what it lists TIED to the program's text (the seventh form; the later family's looks); each row that meets fmt, with fmt's text TOLD by the authors' own Lean function (tested against real Go, not proved from fmt's source: count such statements apart). THE CARD IS WHAT COUNTS. Prove the row's statement (the work); the ties are given (YtjaldfmdjnkoeabDoorTie.lean); close each card by the builder's one call (the guide's Derived/Test/ToyasCard.lean, 'card_holds'). Laid BY PROGRAM, IN A SANDBOX (cutbox-door.mjs). By AI agents, Wed Nov 11 2026. No macro, syntax, notation, axiom, sorry.
-/
import Derived.Test.YtjaldfmdjnkoeabDoorRows
import GoSem.ClaimSeven
namespace Go.Proofs.YtjaldfmdjnkoeabDoor
namespace Rows

/-- THE TIED CARD OF 'parleylaw13.EventsNames'. -/
def eventsNamesCard : Claim7 := { stood := { row := eventsNamesRow, standIns := [], harness := (true, "a134dae82b75b82ba99cac668e328c74f7161e446b481184d41f188f3a2c0aa8"), looks := true }, kinds := [], alts := [], laidByText := true, laidKinds := [.data, .data, .data, .sentinel, .sentinel, .data, .data], laidTests := true, laidLooks := .later }
def EventsNamesCardSaid : Prop := Claim7.holds Tryd.pinned (.plain (OpenSpec.ofChange eventsNamesSpec)) eventsNamesCard

/-- THE SECOND FORM's CARD OF 'parleylaw13.EventsNames'. -/
def eventsNamesUptoCard : Claim7 := { stood := { row := eventsNamesUptoRow, standIns := [], harness := (true, "a134dae82b75b82ba99cac668e328c74f7161e446b481184d41f188f3a2c0aa8"), looks := true }, kinds := [], alts := [], laidByText := true, laidKinds := [.data, .data, .data, .sentinel, .sentinel, .data, .data], laidTests := true, laidLooks := .later }
def EventsNamesUptoCardSaid : Prop := Claim7.holds Tryd.pinned (.plain (OpenSpec.upto eventsNamesSpec)) eventsNamesUptoCard
end Rows
end Go.Proofs.YtjaldfmdjnkoeabDoor
