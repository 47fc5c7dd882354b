/-
  DERIVED. GIVEN WITH THE SEED: THE CARDS: each row of YtmhinalgjfiliaaDoorRows.lean that lists a variable, with what it lists TIED to the program's text (the seventh form; the later family's looks); each row that meets fmt, with fmt's text TOLD by the authors' own Lean function (tested against real Go, not proved from fmt's source: count such statements apart). THE CARD IS WHAT COUNTS. Prove the row's statement (the work); the ties are given (YtmhinalgjfiliaaDoorTie.lean); close each card by the builder's one call (the guide's Derived/Test/ToyasCard.lean, 'card_holds'). Laid BY PROGRAM, IN A SANDBOX (cutbox-door.mjs). By AI agents, Wed Nov 11 2026. No macro, syntax, notation, axiom, sorry.
-/
import Derived.Test.YtmhinalgjfiliaaDoorRows
import GoSem.ClaimSeven
namespace Go.Proofs.YtmhinalgjfiliaaDoor
namespace Rows

/-- THE TIED CARD OF 'parleylaw07.AttemptAlone'. -/
def attemptAloneCard : Claim7 := { stood := { row := attemptAloneRow, standIns := [], harness := (true, "30110f8d070e311a24140f9b490db2c62625baca8d75ee3a3724c5de69a01f92"), looks := false }, kinds := [], alts := [], laidByText := true, laidKinds := [.data], laidTests := true, laidLooks := .later }
def AttemptAloneCardSaid : Prop := Claim7.holds Tryd.pinned (.plain (OpenSpec.ofChange attemptAloneSpec)) attemptAloneCard

/-- THE TIED CARD OF 'parleylaw07.AttemptFull'. -/
def attemptFullCard : Claim7 := { stood := { row := attemptFullRow, standIns := [], harness := (true, "30110f8d070e311a24140f9b490db2c62625baca8d75ee3a3724c5de69a01f92"), looks := false }, kinds := [], alts := [], laidByText := true, laidKinds := [.data], laidTests := true, laidLooks := .later }
def AttemptFullCardSaid : Prop := Claim7.holds Tryd.pinned (.plain (OpenSpec.ofChange attemptFullSpec)) attemptFullCard

/-- THE TIED CARD OF 'parleylaw07.AttemptNames'. -/
def attemptNamesCard : Claim7 := { stood := { row := attemptNamesRow, standIns := [], harness := (true, "30110f8d070e311a24140f9b490db2c62625baca8d75ee3a3724c5de69a01f92"), looks := false }, kinds := [], alts := [], laidByText := true, laidKinds := [.data], laidTests := true, laidLooks := .later }
def AttemptNamesCardSaid : Prop := Claim7.holds Tryd.pinned (.plain (OpenSpec.ofChange attemptNamesSpec)) attemptNamesCard

/-- THE SECOND FORM's CARD OF 'parleylaw07.AttemptAlone'. -/
def attemptAloneUptoCard : Claim7 := { stood := { row := attemptAloneUptoRow, standIns := [], harness := (true, "30110f8d070e311a24140f9b490db2c62625baca8d75ee3a3724c5de69a01f92"), looks := false }, kinds := [], alts := [], laidByText := true, laidKinds := [.data], laidTests := true, laidLooks := .later }
def AttemptAloneUptoCardSaid : Prop := Claim7.holds Tryd.pinned (.plain (OpenSpec.upto attemptAloneSpec)) attemptAloneUptoCard

/-- THE SECOND FORM's CARD OF 'parleylaw07.AttemptFull'. -/
def attemptFullUptoCard : Claim7 := { stood := { row := attemptFullUptoRow, standIns := [], harness := (true, "30110f8d070e311a24140f9b490db2c62625baca8d75ee3a3724c5de69a01f92"), looks := false }, kinds := [], alts := [], laidByText := true, laidKinds := [.data], laidTests := true, laidLooks := .later }
def AttemptFullUptoCardSaid : Prop := Claim7.holds Tryd.pinned (.plain (OpenSpec.upto attemptFullSpec)) attemptFullUptoCard

/-- THE SECOND FORM's CARD OF 'parleylaw07.AttemptNames'. -/
def attemptNamesUptoCard : Claim7 := { stood := { row := attemptNamesUptoRow, standIns := [], harness := (true, "30110f8d070e311a24140f9b490db2c62625baca8d75ee3a3724c5de69a01f92"), looks := false }, kinds := [], alts := [], laidByText := true, laidKinds := [.data], laidTests := true, laidLooks := .later }
def AttemptNamesUptoCardSaid : Prop := Claim7.holds Tryd.pinned (.plain (OpenSpec.upto attemptNamesSpec)) attemptNamesUptoCard
end Rows
end Go.Proofs.YtmhinalgjfiliaaDoor
