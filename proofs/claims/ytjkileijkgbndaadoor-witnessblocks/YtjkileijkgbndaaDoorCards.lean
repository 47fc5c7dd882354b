/-
  DERIVED. GIVEN WITH THE SEED: THE CARDS: each row of YtjkileijkgbndaaDoorRows.lean that lists a variable, with what it lists TIED to the program's text (the seventh form; the later family's looks); each row that meets fmt, with fmt's text TOLD by the authors' own Lean function (tested against real Go, not proved from fmt's source: count such statements apart). THE CARD IS WHAT COUNTS. Prove the row's statement (the work); the ties are given (YtjkileijkgbndaaDoorTie.lean); close each card by the builder's one call (the guide's Derived/Test/ToyasCard.lean, 'card_holds'). Laid BY PROGRAM, IN A SANDBOX (cutbox-door.mjs). By AI agents, Wed Nov 11 2026. No macro, syntax, notation, axiom, sorry.
-/
import Derived.Test.YtjkileijkgbndaaDoorRows
import GoSem.ClaimSeven
namespace Go.Proofs.YtjkileijkgbndaaDoor
namespace Rows

/-- THE TIED CARD OF 'parleylaw15.WitnessBlocks'. -/
def witnessBlocksCard : Claim7 := { stood := { row := witnessBlocksRow, standIns := [], harness := (true, "fec7a95938ab78959f6cdd960dd8aaba21c23cb8fa0b6ce07bd56436fce7b22c"), looks := false }, kinds := [], alts := [], laidByText := true, laidKinds := [.data, .data], laidTests := true, laidLooks := .later }
def WitnessBlocksCardSaid : Prop := Claim7.holds Tryd.pinned (.plain (OpenSpec.ofChange witnessBlocksSpec)) witnessBlocksCard

/-- THE SECOND FORM's CARD OF 'parleylaw15.WitnessBlocks'. -/
def witnessBlocksUptoCard : Claim7 := { stood := { row := witnessBlocksUptoRow, standIns := [], harness := (true, "fec7a95938ab78959f6cdd960dd8aaba21c23cb8fa0b6ce07bd56436fce7b22c"), looks := false }, kinds := [], alts := [], laidByText := true, laidKinds := [.data, .data], laidTests := true, laidLooks := .later }
def WitnessBlocksUptoCardSaid : Prop := Claim7.holds Tryd.pinned (.plain (OpenSpec.upto witnessBlocksSpec)) witnessBlocksUptoCard
end Rows
end Go.Proofs.YtjkileijkgbndaaDoor
