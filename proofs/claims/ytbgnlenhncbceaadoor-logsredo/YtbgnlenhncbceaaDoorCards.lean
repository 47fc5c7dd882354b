/-
  DERIVED. GIVEN WITH THE SEED: THE CARDS: each row of YtbgnlenhncbceaaDoorRows.lean that lists a variable, with what it lists TIED to the program's text (the seventh form; the later family's looks); each row that meets fmt, with fmt's text TOLD by the authors' own Lean function (tested against real Go, not proved from fmt's source: count such statements apart). THE CARD IS WHAT COUNTS. Prove the row's statement (the work); the ties are given (YtbgnlenhncbceaaDoorTie.lean); close each card by the builder's one call (the guide's Derived/Test/ToyasCard.lean, 'card_holds'). Laid BY PROGRAM, IN A SANDBOX (cutbox-door.mjs). By AI agents, Wed Nov 11 2026. No macro, syntax, notation, axiom, sorry.
-/
import Derived.Test.YtbgnlenhncbceaaDoorRows
import GoSem.ClaimSeven
namespace Go.Proofs.YtbgnlenhncbceaaDoor
namespace Rows

/-- THE TIED CARD OF 'parleylaw05.LogsReads'. -/
def logsReadsCard : Claim7 := { stood := { row := logsReadsRow, standIns := [], harness := (true, "6963acd0fe152237b728f414ba7916cad229b8e33d554120c13e967f94faf229"), looks := false }, kinds := [], alts := [], laidByText := true, laidKinds := [.data], laidTests := true, laidLooks := .later }
def LogsReadsCardSaid : Prop := Claim7.holds Tryd.pinned (.plain (OpenSpec.ofChange logsReadsSpec)) logsReadsCard

/-- THE TIED CARD OF 'parleylaw05.LogsRedo'. -/
def logsRedoCard : Claim7 := { stood := { row := logsRedoRow, standIns := [], harness := (true, "6963acd0fe152237b728f414ba7916cad229b8e33d554120c13e967f94faf229"), looks := false }, kinds := [], alts := [], laidByText := true, laidKinds := [.data], laidTests := true, laidLooks := .later }
def LogsRedoCardSaid : Prop := Claim7.holds Tryd.pinned (.plain (OpenSpec.ofChange logsRedoSpec)) logsRedoCard

/-- THE TIED CARD OF 'parleylaw05.LogsWalks'. -/
def logsWalksCard : Claim7 := { stood := { row := logsWalksRow, standIns := [], harness := (true, "6963acd0fe152237b728f414ba7916cad229b8e33d554120c13e967f94faf229"), looks := false }, kinds := [], alts := [], laidByText := true, laidKinds := [.data], laidTests := true, laidLooks := .later }
def LogsWalksCardSaid : Prop := Claim7.holds Tryd.pinned (.plain (OpenSpec.ofChange logsWalksSpec)) logsWalksCard

/-- THE TIED CARD OF 'parleylaw05.LogsBack'. -/
def logsBackCard : Claim7 := { stood := { row := logsBackRow, standIns := [], harness := (true, "6963acd0fe152237b728f414ba7916cad229b8e33d554120c13e967f94faf229"), looks := false }, kinds := [], alts := [], laidByText := true, laidKinds := [.data], laidTests := true, laidLooks := .later }
def LogsBackCardSaid : Prop := Claim7.holds Tryd.pinned (.plain (OpenSpec.ofChange logsBackSpec)) logsBackCard

/-- THE SECOND FORM's CARD OF 'parleylaw05.LogsReads'. -/
def logsReadsUptoCard : Claim7 := { stood := { row := logsReadsUptoRow, standIns := [], harness := (true, "6963acd0fe152237b728f414ba7916cad229b8e33d554120c13e967f94faf229"), looks := false }, kinds := [], alts := [], laidByText := true, laidKinds := [.data], laidTests := true, laidLooks := .later }
def LogsReadsUptoCardSaid : Prop := Claim7.holds Tryd.pinned (.plain (OpenSpec.upto logsReadsSpec)) logsReadsUptoCard

/-- THE SECOND FORM's CARD OF 'parleylaw05.LogsRedo'. -/
def logsRedoUptoCard : Claim7 := { stood := { row := logsRedoUptoRow, standIns := [], harness := (true, "6963acd0fe152237b728f414ba7916cad229b8e33d554120c13e967f94faf229"), looks := false }, kinds := [], alts := [], laidByText := true, laidKinds := [.data], laidTests := true, laidLooks := .later }
def LogsRedoUptoCardSaid : Prop := Claim7.holds Tryd.pinned (.plain (OpenSpec.upto logsRedoSpec)) logsRedoUptoCard

/-- THE SECOND FORM's CARD OF 'parleylaw05.LogsWalks'. -/
def logsWalksUptoCard : Claim7 := { stood := { row := logsWalksUptoRow, standIns := [], harness := (true, "6963acd0fe152237b728f414ba7916cad229b8e33d554120c13e967f94faf229"), looks := false }, kinds := [], alts := [], laidByText := true, laidKinds := [.data], laidTests := true, laidLooks := .later }
def LogsWalksUptoCardSaid : Prop := Claim7.holds Tryd.pinned (.plain (OpenSpec.upto logsWalksSpec)) logsWalksUptoCard

/-- THE SECOND FORM's CARD OF 'parleylaw05.LogsBack'. -/
def logsBackUptoCard : Claim7 := { stood := { row := logsBackUptoRow, standIns := [], harness := (true, "6963acd0fe152237b728f414ba7916cad229b8e33d554120c13e967f94faf229"), looks := false }, kinds := [], alts := [], laidByText := true, laidKinds := [.data], laidTests := true, laidLooks := .later }
def LogsBackUptoCardSaid : Prop := Claim7.holds Tryd.pinned (.plain (OpenSpec.upto logsBackSpec)) logsBackUptoCard
end Rows
end Go.Proofs.YtbgnlenhncbceaaDoor
