/-
  DERIVED. GIVEN WITH THE SEED: THE CARDS: each row of YtmhinalgjfiliaaGreatDoorRows.lean that lists a variable, with what it lists TIED to the program's text (the seventh form; the later family's looks); each row that meets fmt, with fmt's text TOLD by the authors' own Lean function (tested against real Go, not proved from fmt's source: count such statements apart). THE CARD IS WHAT COUNTS. Prove the row's statement (the work); the ties are given (YtmhinalgjfiliaaGreatDoorTie.lean); close each card by the builder's one call (the guide's Derived/Test/ToyasCard.lean, 'card_holds'). Laid BY PROGRAM, IN A SANDBOX (cutbox-door.mjs). By AI agents, Wed Nov 11 2026. No macro, syntax, notation, axiom, sorry.
-/
import Derived.Test.YtmhinalgjfiliaaGreatDoorRows
import GoSem.ClaimSeven
namespace Go.Proofs.YtmhinalgjfiliaaGreatDoor
namespace Rows

/-- THE TIED CARD OF 'parleylaw07.AttemptPlays'. -/
def attemptPlaysCard : Claim7 := { stood := { row := attemptPlaysRow, standIns := [], harness := (true, "03e280ec5634bd2eb89d24973a5ed3004faab3d80c956eb0a6efc5284ba83968"), looks := false }, kinds := [], alts := [], laidByText := true, laidKinds := [.data], laidTests := true, laidLooks := .later }
def AttemptPlaysCardSaid : Prop := Claim7.holds Tryz.pinned (.plain (OpenSpec.ofChange attemptPlaysSpec)) attemptPlaysCard

/-- THE TIED CARD OF 'parleylaw07.AttemptFrom'. -/
def attemptFromCard : Claim7 := { stood := { row := attemptFromRow, standIns := [], harness := (true, "03e280ec5634bd2eb89d24973a5ed3004faab3d80c956eb0a6efc5284ba83968"), looks := false }, kinds := [], alts := [], laidByText := true, laidKinds := [.data], laidTests := true, laidLooks := .later }
def AttemptFromCardSaid : Prop := Claim7.holds Tryz.pinned (.plain (OpenSpec.ofChange attemptFromSpec)) attemptFromCard

/-- THE TIED CARD OF 'parleylaw07.AttemptNil'. -/
def attemptNilCard : Claim7 := { stood := { row := attemptNilRow, standIns := [], harness := (true, "03e280ec5634bd2eb89d24973a5ed3004faab3d80c956eb0a6efc5284ba83968"), looks := false }, kinds := [], alts := [], laidByText := true, laidKinds := [.data], laidTests := true, laidLooks := .later }
def AttemptNilCardSaid : Prop := Claim7.holds Tryz.pinned (.plain (OpenSpec.ofChange attemptNilSpec)) attemptNilCard

/-- THE SECOND FORM's CARD OF 'parleylaw07.AttemptPlays'. -/
def attemptPlaysUptoCard : Claim7 := { stood := { row := attemptPlaysUptoRow, standIns := [], harness := (true, "03e280ec5634bd2eb89d24973a5ed3004faab3d80c956eb0a6efc5284ba83968"), looks := false }, kinds := [], alts := [], laidByText := true, laidKinds := [.data], laidTests := true, laidLooks := .later }
def AttemptPlaysUptoCardSaid : Prop := Claim7.holds Tryz.pinned (.plain (OpenSpec.upto attemptPlaysSpec)) attemptPlaysUptoCard

/-- THE SECOND FORM's CARD OF 'parleylaw07.AttemptFrom'. -/
def attemptFromUptoCard : Claim7 := { stood := { row := attemptFromUptoRow, standIns := [], harness := (true, "03e280ec5634bd2eb89d24973a5ed3004faab3d80c956eb0a6efc5284ba83968"), looks := false }, kinds := [], alts := [], laidByText := true, laidKinds := [.data], laidTests := true, laidLooks := .later }
def AttemptFromUptoCardSaid : Prop := Claim7.holds Tryz.pinned (.plain (OpenSpec.upto attemptFromSpec)) attemptFromUptoCard

/-- THE SECOND FORM's CARD OF 'parleylaw07.AttemptNil'. -/
def attemptNilUptoCard : Claim7 := { stood := { row := attemptNilUptoRow, standIns := [], harness := (true, "03e280ec5634bd2eb89d24973a5ed3004faab3d80c956eb0a6efc5284ba83968"), looks := false }, kinds := [], alts := [], laidByText := true, laidKinds := [.data], laidTests := true, laidLooks := .later }
def AttemptNilUptoCardSaid : Prop := Claim7.holds Tryz.pinned (.plain (OpenSpec.upto attemptNilSpec)) attemptNilUptoCard
end Rows
end Go.Proofs.YtmhinalgjfiliaaGreatDoor
