/-
  DERIVED. GIVEN WITH THE SEED: THE CARDS: each row of YtkkmkfldldglgaaGreatDoorRows.lean that lists a variable, with what it lists TIED to the program's text (the seventh form; the later family's looks); each row that meets fmt, with fmt's text TOLD by the authors' own Lean function (tested against real Go, not proved from fmt's source: count such statements apart). THE CARD IS WHAT COUNTS. Prove the row's statement (the work); the ties are given (YtkkmkfldldglgaaGreatDoorTie.lean); close each card by the builder's one call (the guide's Derived/Test/ToyasCard.lean, 'card_holds'). Laid BY PROGRAM, IN A SANDBOX (cutbox-door.mjs). By AI agents, Wed Nov 11 2026. No macro, syntax, notation, axiom, sorry.
-/
import Derived.Test.YtkkmkfldldglgaaGreatDoorRows
import GoSem.ClaimSeven
namespace Go.Proofs.YtkkmkfldldglgaaGreatDoor
namespace Rows

/-- THE TIED CARD OF 'parleylaw09.AsmParse'. -/
def asmParseCard : Claim7 := { stood := { row := asmParseRow, standIns := [], harness := (true, "cc3b013117410c0235fa1d69272832031b2d5ab584b57cfbea2f1c38213840c3"), looks := true }, kinds := [], alts := [], laidByText := true, laidKinds := [.data, .data, .data, .data, .data, .pinned], laidTests := true, laidLooks := .later }
def AsmParseCardSaid : Prop := Claim7.holds Tryz.pinned (.plain (OpenSpec.ofChange asmParseSpec)) asmParseCard

/-- THE TIED CARD OF 'parleylaw09.AsmText'. -/
def asmTextCard : Claim7 := { stood := { row := asmTextRow, standIns := [], harness := (true, "cc3b013117410c0235fa1d69272832031b2d5ab584b57cfbea2f1c38213840c3"), looks := true }, kinds := [], alts := [], laidByText := true, laidKinds := [.data, .data, .data, .data, .data, .pinned], laidTests := true, laidLooks := .later }
def AsmTextCardSaid : Prop := Claim7.holds Tryz.pinned (.plain (OpenSpec.ofChange asmTextSpec)) asmTextCard

/-- THE TIED CARD OF 'parleylaw09.AsmScript'. -/
def asmScriptCard : Claim7 := { stood := { row := asmScriptRow, standIns := [], harness := (true, "cc3b013117410c0235fa1d69272832031b2d5ab584b57cfbea2f1c38213840c3"), looks := true }, kinds := [], alts := [], laidByText := true, laidKinds := [.data, .data, .data, .data, .sentinel, .sentinel, .data, .pinned], laidTests := true, laidLooks := .later }
def AsmScriptCardSaid : Prop := Claim7.holds Tryz.pinned (.plain (OpenSpec.ofChange asmScriptSpec)) asmScriptCard

/-- THE TIED CARD OF 'parleylaw09.AsmScripts'. -/
def asmScriptsCard : Claim7 := { stood := { row := asmScriptsRow, standIns := [], harness := (true, "cc3b013117410c0235fa1d69272832031b2d5ab584b57cfbea2f1c38213840c3"), looks := true }, kinds := [], alts := [], laidByText := true, laidKinds := [.data, .data, .data, .data, .sentinel, .sentinel, .data, .pinned], laidTests := true, laidLooks := .later }
def AsmScriptsCardSaid : Prop := Claim7.holds Tryz.pinned (.plain (OpenSpec.ofChange asmScriptsSpec)) asmScriptsCard

/-- THE TIED CARD OF 'parleylaw09.AsmBack'. -/
def asmBackCard : Claim7 := { stood := { row := asmBackRow, standIns := [], harness := (true, "cc3b013117410c0235fa1d69272832031b2d5ab584b57cfbea2f1c38213840c3"), looks := true }, kinds := [], alts := [], laidByText := true, laidKinds := [.data, .data, .data, .data, .data, .pinned], laidTests := true, laidLooks := .later }
def AsmBackCardSaid : Prop := Claim7.holds Tryz.pinned (.plain (OpenSpec.ofChange asmBackSpec)) asmBackCard

/-- THE TIED CARD OF 'parleylaw09.AsmBlanks'. -/
def asmBlanksCard : Claim7 := { stood := { row := asmBlanksRow, standIns := [], harness := (true, "cc3b013117410c0235fa1d69272832031b2d5ab584b57cfbea2f1c38213840c3"), looks := true }, kinds := [], alts := [], laidByText := true, laidKinds := [.data, .data, .data, .data, .data, .pinned], laidTests := true, laidLooks := .later }
def AsmBlanksCardSaid : Prop := Claim7.holds Tryz.pinned (.plain (OpenSpec.ofChange asmBlanksSpec)) asmBlanksCard

/-- THE SECOND FORM's CARD OF 'parleylaw09.AsmParse'. -/
def asmParseUptoCard : Claim7 := { stood := { row := asmParseUptoRow, standIns := [], harness := (true, "cc3b013117410c0235fa1d69272832031b2d5ab584b57cfbea2f1c38213840c3"), looks := true }, kinds := [], alts := [], laidByText := true, laidKinds := [.data, .data, .data, .data, .data, .pinned], laidTests := true, laidLooks := .later }
def AsmParseUptoCardSaid : Prop := Claim7.holds Tryz.pinned (.plain (OpenSpec.upto asmParseSpec)) asmParseUptoCard

/-- THE SECOND FORM's CARD OF 'parleylaw09.AsmText'. -/
def asmTextUptoCard : Claim7 := { stood := { row := asmTextUptoRow, standIns := [], harness := (true, "cc3b013117410c0235fa1d69272832031b2d5ab584b57cfbea2f1c38213840c3"), looks := true }, kinds := [], alts := [], laidByText := true, laidKinds := [.data, .data, .data, .data, .data, .pinned], laidTests := true, laidLooks := .later }
def AsmTextUptoCardSaid : Prop := Claim7.holds Tryz.pinned (.plain (OpenSpec.upto asmTextSpec)) asmTextUptoCard

/-- THE SECOND FORM's CARD OF 'parleylaw09.AsmScript'. -/
def asmScriptUptoCard : Claim7 := { stood := { row := asmScriptUptoRow, standIns := [], harness := (true, "cc3b013117410c0235fa1d69272832031b2d5ab584b57cfbea2f1c38213840c3"), looks := true }, kinds := [], alts := [], laidByText := true, laidKinds := [.data, .data, .data, .data, .sentinel, .sentinel, .data, .pinned], laidTests := true, laidLooks := .later }
def AsmScriptUptoCardSaid : Prop := Claim7.holds Tryz.pinned (.plain (OpenSpec.upto asmScriptSpec)) asmScriptUptoCard

/-- THE SECOND FORM's CARD OF 'parleylaw09.AsmScripts'. -/
def asmScriptsUptoCard : Claim7 := { stood := { row := asmScriptsUptoRow, standIns := [], harness := (true, "cc3b013117410c0235fa1d69272832031b2d5ab584b57cfbea2f1c38213840c3"), looks := true }, kinds := [], alts := [], laidByText := true, laidKinds := [.data, .data, .data, .data, .sentinel, .sentinel, .data, .pinned], laidTests := true, laidLooks := .later }
def AsmScriptsUptoCardSaid : Prop := Claim7.holds Tryz.pinned (.plain (OpenSpec.upto asmScriptsSpec)) asmScriptsUptoCard

/-- THE SECOND FORM's CARD OF 'parleylaw09.AsmBack'. -/
def asmBackUptoCard : Claim7 := { stood := { row := asmBackUptoRow, standIns := [], harness := (true, "cc3b013117410c0235fa1d69272832031b2d5ab584b57cfbea2f1c38213840c3"), looks := true }, kinds := [], alts := [], laidByText := true, laidKinds := [.data, .data, .data, .data, .data, .pinned], laidTests := true, laidLooks := .later }
def AsmBackUptoCardSaid : Prop := Claim7.holds Tryz.pinned (.plain (OpenSpec.upto asmBackSpec)) asmBackUptoCard

/-- THE SECOND FORM's CARD OF 'parleylaw09.AsmBlanks'. -/
def asmBlanksUptoCard : Claim7 := { stood := { row := asmBlanksUptoRow, standIns := [], harness := (true, "cc3b013117410c0235fa1d69272832031b2d5ab584b57cfbea2f1c38213840c3"), looks := true }, kinds := [], alts := [], laidByText := true, laidKinds := [.data, .data, .data, .data, .data, .pinned], laidTests := true, laidLooks := .later }
def AsmBlanksUptoCardSaid : Prop := Claim7.holds Tryz.pinned (.plain (OpenSpec.upto asmBlanksSpec)) asmBlanksUptoCard
end Rows
end Go.Proofs.YtkkmkfldldglgaaGreatDoor
