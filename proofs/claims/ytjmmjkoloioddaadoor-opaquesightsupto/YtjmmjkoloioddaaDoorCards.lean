/-
  DERIVED. GIVEN WITH THE SEED: THE CARDS: each row of YtjmmjkoloioddaaDoorRows.lean that lists a variable, with what it lists TIED to the program's text (the seventh form; the later family's looks); each row that meets fmt, with fmt's text TOLD by the authors' own Lean function (tested against real Go, not proved from fmt's source: count such statements apart). THE CARD IS WHAT COUNTS. Prove the row's statement (the work); the ties are given (YtjmmjkoloioddaaDoorTie.lean); close each card by the builder's one call (the guide's Derived/Test/ToyasCard.lean, 'card_holds'). Laid BY PROGRAM, IN A SANDBOX (cutbox-door.mjs). By AI agents, Wed Nov 11 2026. No macro, syntax, notation, axiom, sorry.
-/
import Derived.Test.YtjmmjkoloioddaaDoorRows
import GoSem.ClaimSeven
namespace Go.Proofs.YtjmmjkoloioddaaDoor
namespace Rows

/-- THE TIED CARD OF 'parleylaw16.OpaqueSights'. -/
def opaqueSightsCard : Claim7 := { stood := { row := opaqueSightsRow, standIns := [], harness := (true, "93f2a439b66842c7df9bb552669994975918d76c7250ad5ce6bef9892ab81c84"), looks := false }, kinds := [], alts := [], laidByText := true, laidKinds := [.data, .data], laidTests := true, laidLooks := .later }
def OpaqueSightsCardSaid : Prop := Claim7.holds Tryd.pinned (.plain (OpenSpec.ofChange opaqueSightsSpec)) opaqueSightsCard

/-- THE SECOND FORM's CARD OF 'parleylaw16.OpaqueSights'. -/
def opaqueSightsUptoCard : Claim7 := { stood := { row := opaqueSightsUptoRow, standIns := [], harness := (true, "93f2a439b66842c7df9bb552669994975918d76c7250ad5ce6bef9892ab81c84"), looks := false }, kinds := [], alts := [], laidByText := true, laidKinds := [.data, .data], laidTests := true, laidLooks := .later }
def OpaqueSightsUptoCardSaid : Prop := Claim7.holds Tryd.pinned (.plain (OpenSpec.upto opaqueSightsSpec)) opaqueSightsUptoCard
end Rows
end Go.Proofs.YtjmmjkoloioddaaDoor
