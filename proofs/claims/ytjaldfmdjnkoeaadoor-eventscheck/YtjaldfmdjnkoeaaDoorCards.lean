/-
  DERIVED. GIVEN WITH THE SEED: THE CARDS: each row of YtjaldfmdjnkoeaaDoorRows.lean that lists a variable, with what it lists TIED to the program's text (the seventh form; the later family's looks); each row that meets fmt, with fmt's text TOLD by the authors' own Lean function (tested against real Go, not proved from fmt's source: count such statements apart). THE CARD IS WHAT COUNTS. Prove the row's statement (the work); the ties are given (YtjaldfmdjnkoeaaDoorTie.lean); close each card by the builder's one call (the guide's Derived/Test/ToyasCard.lean, 'card_holds'). Laid BY PROGRAM, IN A SANDBOX (cutbox-door.mjs). By AI agents, Wed Nov 11 2026. No macro, syntax, notation, axiom, sorry.
-/
import Derived.Test.YtjaldfmdjnkoeaaDoorRows
import GoSem.ClaimSeven
namespace Go.Proofs.YtjaldfmdjnkoeaaDoor
namespace Rows

/-- THE TIED CARD OF 'parleylaw13.EventsCheck'. -/
def eventsCheckCard : Claim7 := { stood := { row := eventsCheckRow, standIns := [], harness := (true, "9fb4ae2560d7bc49d0d932a67dda2622e24e8f83aaaf965f9b90aba731bbac13"), looks := true }, kinds := [], alts := [], laidByText := true, laidKinds := [.data, .data, .data, .sentinel, .sentinel, .data, .data], laidTests := true, laidLooks := .later }
def EventsCheckCardSaid : Prop := Claim7.holds Tryd.pinned (.plain (OpenSpec.ofChange eventsCheckSpec)) eventsCheckCard

/-- THE TIED CARD OF 'parleylaw13.EventsTexts'. -/
def eventsTextsCard : Claim7 := { stood := { row := eventsTextsRow, standIns := [], harness := (true, "9fb4ae2560d7bc49d0d932a67dda2622e24e8f83aaaf965f9b90aba731bbac13"), looks := true }, kinds := [], alts := [], laidByText := true, laidKinds := [.data, .data, .data, .sentinel, .sentinel, .data, .data], laidTests := true, laidLooks := .later }
def EventsTextsCardSaid : Prop := Claim7.holds Tryd.pinned (.plain (OpenSpec.ofChange eventsTextsSpec)) eventsTextsCard

/-- THE TIED CARD OF 'parleylaw13.EventsParses'. -/
def eventsParsesCard : Claim7 := { stood := { row := eventsParsesRow, standIns := [], harness := (true, "9fb4ae2560d7bc49d0d932a67dda2622e24e8f83aaaf965f9b90aba731bbac13"), looks := true }, kinds := [], alts := [], laidByText := true, laidKinds := [.data, .data, .data, .sentinel, .sentinel, .data, .data], laidTests := true, laidLooks := .later }
def EventsParsesCardSaid : Prop := Claim7.holds Tryd.pinned (.plain (OpenSpec.ofChange eventsParsesSpec)) eventsParsesCard

/-- THE TIED CARD OF 'parleylaw13.EventsBack'. -/
def eventsBackCard : Claim7 := { stood := { row := eventsBackRow, standIns := [], harness := (true, "9fb4ae2560d7bc49d0d932a67dda2622e24e8f83aaaf965f9b90aba731bbac13"), looks := true }, kinds := [], alts := [], laidByText := true, laidKinds := [.data, .data, .data, .sentinel, .sentinel, .data, .data], laidTests := true, laidLooks := .later }
def EventsBackCardSaid : Prop := Claim7.holds Tryd.pinned (.plain (OpenSpec.ofChange eventsBackSpec)) eventsBackCard

/-- THE TIED CARD OF 'parleylaw13.EventsBegins'. -/
def eventsBeginsCard : Claim7 := { stood := { row := eventsBeginsRow, standIns := [], harness := (true, "9fb4ae2560d7bc49d0d932a67dda2622e24e8f83aaaf965f9b90aba731bbac13"), looks := true }, kinds := [], alts := [], laidByText := true, laidKinds := [.data, .data, .data, .sentinel, .sentinel, .data, .data], laidTests := true, laidLooks := .later }
def EventsBeginsCardSaid : Prop := Claim7.holds Tryd.pinned (.plain (OpenSpec.ofChange eventsBeginsSpec)) eventsBeginsCard

/-- THE TIED CARD OF 'parleylaw13.EventsSwaps'. -/
def eventsSwapsCard : Claim7 := { stood := { row := eventsSwapsRow, standIns := [], harness := (true, "9fb4ae2560d7bc49d0d932a67dda2622e24e8f83aaaf965f9b90aba731bbac13"), looks := true }, kinds := [], alts := [], laidByText := true, laidKinds := [.data, .data, .data, .sentinel, .sentinel, .data, .data], laidTests := true, laidLooks := .later }
def EventsSwapsCardSaid : Prop := Claim7.holds Tryd.pinned (.plain (OpenSpec.ofChange eventsSwapsSpec)) eventsSwapsCard

/-- THE SECOND FORM's CARD OF 'parleylaw13.EventsCheck'. -/
def eventsCheckUptoCard : Claim7 := { stood := { row := eventsCheckUptoRow, standIns := [], harness := (true, "9fb4ae2560d7bc49d0d932a67dda2622e24e8f83aaaf965f9b90aba731bbac13"), looks := true }, kinds := [], alts := [], laidByText := true, laidKinds := [.data, .data, .data, .sentinel, .sentinel, .data, .data], laidTests := true, laidLooks := .later }
def EventsCheckUptoCardSaid : Prop := Claim7.holds Tryd.pinned (.plain (OpenSpec.upto eventsCheckSpec)) eventsCheckUptoCard

/-- THE SECOND FORM's CARD OF 'parleylaw13.EventsTexts'. -/
def eventsTextsUptoCard : Claim7 := { stood := { row := eventsTextsUptoRow, standIns := [], harness := (true, "9fb4ae2560d7bc49d0d932a67dda2622e24e8f83aaaf965f9b90aba731bbac13"), looks := true }, kinds := [], alts := [], laidByText := true, laidKinds := [.data, .data, .data, .sentinel, .sentinel, .data, .data], laidTests := true, laidLooks := .later }
def EventsTextsUptoCardSaid : Prop := Claim7.holds Tryd.pinned (.plain (OpenSpec.upto eventsTextsSpec)) eventsTextsUptoCard

/-- THE SECOND FORM's CARD OF 'parleylaw13.EventsParses'. -/
def eventsParsesUptoCard : Claim7 := { stood := { row := eventsParsesUptoRow, standIns := [], harness := (true, "9fb4ae2560d7bc49d0d932a67dda2622e24e8f83aaaf965f9b90aba731bbac13"), looks := true }, kinds := [], alts := [], laidByText := true, laidKinds := [.data, .data, .data, .sentinel, .sentinel, .data, .data], laidTests := true, laidLooks := .later }
def EventsParsesUptoCardSaid : Prop := Claim7.holds Tryd.pinned (.plain (OpenSpec.upto eventsParsesSpec)) eventsParsesUptoCard

/-- THE SECOND FORM's CARD OF 'parleylaw13.EventsBack'. -/
def eventsBackUptoCard : Claim7 := { stood := { row := eventsBackUptoRow, standIns := [], harness := (true, "9fb4ae2560d7bc49d0d932a67dda2622e24e8f83aaaf965f9b90aba731bbac13"), looks := true }, kinds := [], alts := [], laidByText := true, laidKinds := [.data, .data, .data, .sentinel, .sentinel, .data, .data], laidTests := true, laidLooks := .later }
def EventsBackUptoCardSaid : Prop := Claim7.holds Tryd.pinned (.plain (OpenSpec.upto eventsBackSpec)) eventsBackUptoCard

/-- THE SECOND FORM's CARD OF 'parleylaw13.EventsBegins'. -/
def eventsBeginsUptoCard : Claim7 := { stood := { row := eventsBeginsUptoRow, standIns := [], harness := (true, "9fb4ae2560d7bc49d0d932a67dda2622e24e8f83aaaf965f9b90aba731bbac13"), looks := true }, kinds := [], alts := [], laidByText := true, laidKinds := [.data, .data, .data, .sentinel, .sentinel, .data, .data], laidTests := true, laidLooks := .later }
def EventsBeginsUptoCardSaid : Prop := Claim7.holds Tryd.pinned (.plain (OpenSpec.upto eventsBeginsSpec)) eventsBeginsUptoCard

/-- THE SECOND FORM's CARD OF 'parleylaw13.EventsSwaps'. -/
def eventsSwapsUptoCard : Claim7 := { stood := { row := eventsSwapsUptoRow, standIns := [], harness := (true, "9fb4ae2560d7bc49d0d932a67dda2622e24e8f83aaaf965f9b90aba731bbac13"), looks := true }, kinds := [], alts := [], laidByText := true, laidKinds := [.data, .data, .data, .sentinel, .sentinel, .data, .data], laidTests := true, laidLooks := .later }
def EventsSwapsUptoCardSaid : Prop := Claim7.holds Tryd.pinned (.plain (OpenSpec.upto eventsSwapsSpec)) eventsSwapsUptoCard
end Rows
end Go.Proofs.YtjaldfmdjnkoeaaDoor
