/-
  DERIVED. GIVEN WITH THE SEED: THE CARDS: each row of YtppejcfghlpbjaaGreatDoorRows.lean that lists a variable, with what it lists TIED to the program's text (the seventh form; the later family's looks); each row that meets fmt, with fmt's text TOLD by the authors' own Lean function (tested against real Go, not proved from fmt's source: count such statements apart). THE CARD IS WHAT COUNTS. Prove the row's statement (the work); the ties are given (YtppejcfghlpbjaaGreatDoorTie.lean); close each card by the builder's one call (the guide's Derived/Test/ToyasCard.lean, 'card_holds'). Laid BY PROGRAM, IN A SANDBOX (cutbox-door.mjs). By AI agents, Wed Nov 11 2026. No macro, syntax, notation, axiom, sorry.
-/
import Derived.Test.YtppejcfghlpbjaaGreatDoorRows
import GoSem.ClaimSeven
namespace Go.Proofs.YtppejcfghlpbjaaGreatDoor
namespace Rows

/-- THE TIED CARD OF 'parleylaw09.AsmScript'. -/
def asmScriptCard : Claim7 := { stood := { row := asmScriptRow, standIns := [], harness := (true, "934cf7965e91463a8863a092b77374086ee6eae8acd3d72efb0594bdeb60b7a9"), looks := true }, kinds := [], alts := [], laidByText := true, laidKinds := [.data, .data, .data, .data, .sentinel, .sentinel, .data, .pinned], laidTests := true, laidLooks := .later }
def AsmScriptCardSaid : Prop := Claim7.holds Tryz.pinned (.plain (OpenSpec.ofChange asmScriptSpec)) asmScriptCard

/-- THE TIED CARD OF 'parleylaw09.AsmScripts'. -/
def asmScriptsCard : Claim7 := { stood := { row := asmScriptsRow, standIns := [], harness := (true, "934cf7965e91463a8863a092b77374086ee6eae8acd3d72efb0594bdeb60b7a9"), looks := true }, kinds := [], alts := [], laidByText := true, laidKinds := [.data, .data, .data, .data, .sentinel, .sentinel, .data, .pinned], laidTests := true, laidLooks := .later }
def AsmScriptsCardSaid : Prop := Claim7.holds Tryz.pinned (.plain (OpenSpec.ofChange asmScriptsSpec)) asmScriptsCard

/-- THE SECOND FORM's CARD OF 'parleylaw09.AsmScript'. -/
def asmScriptUptoCard : Claim7 := { stood := { row := asmScriptUptoRow, standIns := [], harness := (true, "934cf7965e91463a8863a092b77374086ee6eae8acd3d72efb0594bdeb60b7a9"), looks := true }, kinds := [], alts := [], laidByText := true, laidKinds := [.data, .data, .data, .data, .sentinel, .sentinel, .data, .pinned], laidTests := true, laidLooks := .later }
def AsmScriptUptoCardSaid : Prop := Claim7.holds Tryz.pinned (.plain (OpenSpec.upto asmScriptSpec)) asmScriptUptoCard

/-- THE SECOND FORM's CARD OF 'parleylaw09.AsmScripts'. -/
def asmScriptsUptoCard : Claim7 := { stood := { row := asmScriptsUptoRow, standIns := [], harness := (true, "934cf7965e91463a8863a092b77374086ee6eae8acd3d72efb0594bdeb60b7a9"), looks := true }, kinds := [], alts := [], laidByText := true, laidKinds := [.data, .data, .data, .data, .sentinel, .sentinel, .data, .pinned], laidTests := true, laidLooks := .later }
def AsmScriptsUptoCardSaid : Prop := Claim7.holds Tryz.pinned (.plain (OpenSpec.upto asmScriptsSpec)) asmScriptsUptoCard
end Rows
end Go.Proofs.YtppejcfghlpbjaaGreatDoor
