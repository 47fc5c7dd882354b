/-
  DERIVED. GIVEN WITH THE SEED: THE CARDS: each row of YthgkbmfnidehbaaDoorRows.lean that lists a variable, with what it lists TIED to the program's text (the seventh form; the later family's looks); each row that meets fmt, with fmt's text TOLD by the authors' own Lean function (tested against real Go, not proved from fmt's source: count such statements apart). THE CARD IS WHAT COUNTS. Prove the row's statement (the work); the ties are given (YthgkbmfnidehbaaDoorTie.lean); close each card by the builder's one call (the guide's Derived/Test/ToyasCard.lean, 'card_holds'). Laid BY PROGRAM, IN A SANDBOX (cutbox-door.mjs). By AI agents, Wed Nov 11 2026. No macro, syntax, notation, axiom, sorry.
-/
import Derived.Test.YthgkbmfnidehbaaDoorRows
import GoSem.ClaimSeven
namespace Go.Proofs.YthgkbmfnidehbaaDoor
namespace Rows

/-- THE TIED CARD OF 'parleylaw16.OpaqueNames'. -/
def opaqueNamesCard : Claim7 := { stood := { row := opaqueNamesRow, standIns := [], harness := (true, "446b8722de174325ea321d3a7b77ca1b8360f1434fbcfd2f11bab7a66c71cd2a"), looks := false }, kinds := [], alts := [], laidByText := true, laidKinds := [.data, .data], laidTests := true, laidLooks := .later }
def OpaqueNamesCardSaid : Prop := Claim7.holds Tryd.pinned (.plain (OpenSpec.ofChange opaqueNamesSpec)) opaqueNamesCard

/-- THE SECOND FORM's CARD OF 'parleylaw16.OpaqueNames'. -/
def opaqueNamesUptoCard : Claim7 := { stood := { row := opaqueNamesUptoRow, standIns := [], harness := (true, "446b8722de174325ea321d3a7b77ca1b8360f1434fbcfd2f11bab7a66c71cd2a"), looks := false }, kinds := [], alts := [], laidByText := true, laidKinds := [.data, .data], laidTests := true, laidLooks := .later }
def OpaqueNamesUptoCardSaid : Prop := Claim7.holds Tryd.pinned (.plain (OpenSpec.upto opaqueNamesSpec)) opaqueNamesUptoCard
end Rows
end Go.Proofs.YthgkbmfnidehbaaDoor
