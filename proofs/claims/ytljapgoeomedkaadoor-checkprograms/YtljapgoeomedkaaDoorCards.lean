/-
  DERIVED. GIVEN WITH THE SEED: THE CARDS: each row of YtljapgoeomedkaaDoorRows.lean that lists a variable, with what it lists TIED to the program's text (the seventh form; the later family's looks); each row that meets fmt, with fmt's text TOLD by the authors' own Lean function (tested against real Go, not proved from fmt's source: count such statements apart). THE CARD IS WHAT COUNTS. Prove the row's statement (the work); the ties are given (YtljapgoeomedkaaDoorTie.lean); close each card by the builder's one call (the guide's Derived/Test/ToyasCard.lean, 'card_holds'). Laid BY PROGRAM, IN A SANDBOX (cutbox-door.mjs). By AI agents, Wed Nov 11 2026. No macro, syntax, notation, axiom, sorry.
-/
import Derived.Test.YtljapgoeomedkaaDoorRows
import GoSem.ClaimSeven
namespace Go.Proofs.YtljapgoeomedkaaDoor
namespace Rows

/-- THE TIED CARD OF 'parleylaw10.CheckPrograms'. -/
def checkProgramsCard : Claim7 := { stood := { row := checkProgramsRow, standIns := [], harness := (true, "40396d6eb295ad9e2ad49c93d5c1ac946f1d93aad5707d294d789d9bbe0c8b7d"), looks := false }, kinds := [], alts := [], laidByText := true, laidKinds := [.data, .data], laidTests := true, laidLooks := .later }
def CheckProgramsCardSaid : Prop := Claim7.holds Tryd.pinned (.plain (OpenSpec.ofChange checkProgramsSpec)) checkProgramsCard

/-- THE TIED CARD OF 'parleylaw10.CheckFollowers'. -/
def checkFollowersCard : Claim7 := { stood := { row := checkFollowersRow, standIns := [], harness := (true, "40396d6eb295ad9e2ad49c93d5c1ac946f1d93aad5707d294d789d9bbe0c8b7d"), looks := false }, kinds := [], alts := [], laidByText := true, laidKinds := [.data, .data], laidTests := true, laidLooks := .later }
def CheckFollowersCardSaid : Prop := Claim7.holds Tryd.pinned (.plain (OpenSpec.ofChange checkFollowersSpec)) checkFollowersCard

/-- THE TIED CARD OF 'parleylaw10.CheckScripts'. -/
def checkScriptsCard : Claim7 := { stood := { row := checkScriptsRow, standIns := [], harness := (true, "40396d6eb295ad9e2ad49c93d5c1ac946f1d93aad5707d294d789d9bbe0c8b7d"), looks := false }, kinds := [], alts := [], laidByText := true, laidKinds := [.data, .data], laidTests := true, laidLooks := .later }
def CheckScriptsCardSaid : Prop := Claim7.holds Tryd.pinned (.plain (OpenSpec.ofChange checkScriptsSpec)) checkScriptsCard

/-- THE TIED CARD OF 'parleylaw10.CheckWalks'. -/
def checkWalksCard : Claim7 := { stood := { row := checkWalksRow, standIns := [], harness := (true, "40396d6eb295ad9e2ad49c93d5c1ac946f1d93aad5707d294d789d9bbe0c8b7d"), looks := false }, kinds := [], alts := [], laidByText := true, laidKinds := [.data, .data], laidTests := true, laidLooks := .later }
def CheckWalksCardSaid : Prop := Claim7.holds Tryd.pinned (.plain (OpenSpec.ofChange checkWalksSpec)) checkWalksCard

/-- THE TIED CARD OF 'parleylaw10.CheckMore'. -/
def checkMoreCard : Claim7 := { stood := { row := checkMoreRow, standIns := [], harness := (true, "40396d6eb295ad9e2ad49c93d5c1ac946f1d93aad5707d294d789d9bbe0c8b7d"), looks := false }, kinds := [], alts := [], laidByText := true, laidKinds := [.data, .data], laidTests := true, laidLooks := .later }
def CheckMoreCardSaid : Prop := Claim7.holds Tryd.pinned (.plain (OpenSpec.ofChange checkMoreSpec)) checkMoreCard

/-- THE TIED CARD OF 'parleylaw10.CheckNames'. -/
def checkNamesCard : Claim7 := { stood := { row := checkNamesRow, standIns := [], harness := (true, "40396d6eb295ad9e2ad49c93d5c1ac946f1d93aad5707d294d789d9bbe0c8b7d"), looks := false }, kinds := [], alts := [], laidByText := true, laidKinds := [.data, .data], laidTests := true, laidLooks := .later }
def CheckNamesCardSaid : Prop := Claim7.holds Tryd.pinned (.plain (OpenSpec.ofChange checkNamesSpec)) checkNamesCard

/-- THE SECOND FORM's CARD OF 'parleylaw10.CheckPrograms'. -/
def checkProgramsUptoCard : Claim7 := { stood := { row := checkProgramsUptoRow, standIns := [], harness := (true, "40396d6eb295ad9e2ad49c93d5c1ac946f1d93aad5707d294d789d9bbe0c8b7d"), looks := false }, kinds := [], alts := [], laidByText := true, laidKinds := [.data, .data], laidTests := true, laidLooks := .later }
def CheckProgramsUptoCardSaid : Prop := Claim7.holds Tryd.pinned (.plain (OpenSpec.upto checkProgramsSpec)) checkProgramsUptoCard

/-- THE SECOND FORM's CARD OF 'parleylaw10.CheckFollowers'. -/
def checkFollowersUptoCard : Claim7 := { stood := { row := checkFollowersUptoRow, standIns := [], harness := (true, "40396d6eb295ad9e2ad49c93d5c1ac946f1d93aad5707d294d789d9bbe0c8b7d"), looks := false }, kinds := [], alts := [], laidByText := true, laidKinds := [.data, .data], laidTests := true, laidLooks := .later }
def CheckFollowersUptoCardSaid : Prop := Claim7.holds Tryd.pinned (.plain (OpenSpec.upto checkFollowersSpec)) checkFollowersUptoCard

/-- THE SECOND FORM's CARD OF 'parleylaw10.CheckScripts'. -/
def checkScriptsUptoCard : Claim7 := { stood := { row := checkScriptsUptoRow, standIns := [], harness := (true, "40396d6eb295ad9e2ad49c93d5c1ac946f1d93aad5707d294d789d9bbe0c8b7d"), looks := false }, kinds := [], alts := [], laidByText := true, laidKinds := [.data, .data], laidTests := true, laidLooks := .later }
def CheckScriptsUptoCardSaid : Prop := Claim7.holds Tryd.pinned (.plain (OpenSpec.upto checkScriptsSpec)) checkScriptsUptoCard

/-- THE SECOND FORM's CARD OF 'parleylaw10.CheckWalks'. -/
def checkWalksUptoCard : Claim7 := { stood := { row := checkWalksUptoRow, standIns := [], harness := (true, "40396d6eb295ad9e2ad49c93d5c1ac946f1d93aad5707d294d789d9bbe0c8b7d"), looks := false }, kinds := [], alts := [], laidByText := true, laidKinds := [.data, .data], laidTests := true, laidLooks := .later }
def CheckWalksUptoCardSaid : Prop := Claim7.holds Tryd.pinned (.plain (OpenSpec.upto checkWalksSpec)) checkWalksUptoCard

/-- THE SECOND FORM's CARD OF 'parleylaw10.CheckMore'. -/
def checkMoreUptoCard : Claim7 := { stood := { row := checkMoreUptoRow, standIns := [], harness := (true, "40396d6eb295ad9e2ad49c93d5c1ac946f1d93aad5707d294d789d9bbe0c8b7d"), looks := false }, kinds := [], alts := [], laidByText := true, laidKinds := [.data, .data], laidTests := true, laidLooks := .later }
def CheckMoreUptoCardSaid : Prop := Claim7.holds Tryd.pinned (.plain (OpenSpec.upto checkMoreSpec)) checkMoreUptoCard

/-- THE SECOND FORM's CARD OF 'parleylaw10.CheckNames'. -/
def checkNamesUptoCard : Claim7 := { stood := { row := checkNamesUptoRow, standIns := [], harness := (true, "40396d6eb295ad9e2ad49c93d5c1ac946f1d93aad5707d294d789d9bbe0c8b7d"), looks := false }, kinds := [], alts := [], laidByText := true, laidKinds := [.data, .data], laidTests := true, laidLooks := .later }
def CheckNamesUptoCardSaid : Prop := Claim7.holds Tryd.pinned (.plain (OpenSpec.upto checkNamesSpec)) checkNamesUptoCard
end Rows
end Go.Proofs.YtljapgoeomedkaaDoor
