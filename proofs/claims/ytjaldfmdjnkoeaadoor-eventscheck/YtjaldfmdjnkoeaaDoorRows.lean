/-
  NARROWER THAN 'FOR EVERY INPUT', by the rows' own cells (each row's printed sentence says how): EventsCheck: laid · EventsTexts: laid · EventsParses: laid · EventsBack: laid · EventsBegins: laid · EventsSwaps: laid.
  DERIVED. THE GIVEN ROWS OF THIS SEAT. 6 by the template 'for every input the law returns true; each argument reads behind the call as it read before'; 0 by the template 'total and deterministic' (their statements: YtjaldfmdjnkoeaaDoorTotals.lean).
  GIVEN WITH THE SEED: the statements are not yours to turn. If you find one false, say at which input.
  Laid BY PROGRAM, IN A SANDBOX (cutbox-rows.mjs): the forced cells as the released guide's own fill.sh prints them over the translation 3ab7c3f6928547cb… (all of the seat's roots in one cut). By AI agents, Wed Nov 11 2026. No macro, syntax, notation, axiom, sorry.
-/
import Derived.Test.YtjaldfmdjnkoeaaDoorChecked
import GoSem.Claim
import GoSem.ClaimJoined
import GoSem.ClaimMapViews
import Derived.JoinedTies
import Derived.KernelRfl
namespace Go.Proofs.YtjaldfmdjnkoeaaDoor
/- THE CELL 'sum', in the pinned program and in every row, IS THE sha256 OF THE DUMP (.gsa) THAT YtjaldfmdjnkoeaaDoorProg.lean LOADS. Nothing in Lean hashes anything: it is a label: what it is worth is what the hold of that sum in a sandbox is worth. -/
noncomputable def Tryd.pinned : Pinned := { name := "ytjaldfmdjnkoeaadoor", sum := "3ab7c3f6928547cbfa2387d68b164185a9f122003b40f8451ac63561307194a6", checked := Tryd.checked }
namespace Rows
def none {H : Type} : Left H := { results := [], args := [] }

/- WHAT THE LISTED PACKAGE-LEVEL VARIABLES READ AS WHEN THE CALL BEGINS. Each datum BY PROGRAM (the guide's laid-datum.mjs) off the statement by which the dump's own 'gosem.cut.vars' lays the variable. In a bare row this is a premise. The card (YtjaldfmdjnkoeaaDoorCards.lean) ties it to the program's text. -/
def laid_math_bits_deBruijn32tab {H : Type} : DataW H := .agg [.lit (.int .u8 0), .lit (.int .u8 1), .lit (.int .u8 28), .lit (.int .u8 2), .lit (.int .u8 29), .lit (.int .u8 14), .lit (.int .u8 24), .lit (.int .u8 3), .lit (.int .u8 30), .lit (.int .u8 22), .lit (.int .u8 20), .lit (.int .u8 15), .lit (.int .u8 25), .lit (.int .u8 17), .lit (.int .u8 4), .lit (.int .u8 8), .lit (.int .u8 31), .lit (.int .u8 27), .lit (.int .u8 13), .lit (.int .u8 23), .lit (.int .u8 21), .lit (.int .u8 19), .lit (.int .u8 16), .lit (.int .u8 7), .lit (.int .u8 26), .lit (.int .u8 12), .lit (.int .u8 18), .lit (.int .u8 6), .lit (.int .u8 11), .lit (.int .u8 5), .lit (.int .u8 10), .lit (.int .u8 9)]
def laid_math_bits_deBruijn64tab {H : Type} : DataW H := .agg [.lit (.int .u8 0), .lit (.int .u8 1), .lit (.int .u8 56), .lit (.int .u8 2), .lit (.int .u8 57), .lit (.int .u8 49), .lit (.int .u8 28), .lit (.int .u8 3), .lit (.int .u8 61), .lit (.int .u8 58), .lit (.int .u8 42), .lit (.int .u8 50), .lit (.int .u8 38), .lit (.int .u8 29), .lit (.int .u8 17), .lit (.int .u8 4), .lit (.int .u8 62), .lit (.int .u8 47), .lit (.int .u8 59), .lit (.int .u8 36), .lit (.int .u8 45), .lit (.int .u8 43), .lit (.int .u8 51), .lit (.int .u8 22), .lit (.int .u8 53), .lit (.int .u8 39), .lit (.int .u8 33), .lit (.int .u8 30), .lit (.int .u8 24), .lit (.int .u8 18), .lit (.int .u8 12), .lit (.int .u8 5), .lit (.int .u8 63), .lit (.int .u8 55), .lit (.int .u8 48), .lit (.int .u8 27), .lit (.int .u8 60), .lit (.int .u8 41), .lit (.int .u8 37), .lit (.int .u8 16), .lit (.int .u8 46), .lit (.int .u8 35), .lit (.int .u8 44), .lit (.int .u8 21), .lit (.int .u8 52), .lit (.int .u8 32), .lit (.int .u8 23), .lit (.int .u8 11), .lit (.int .u8 54), .lit (.int .u8 26), .lit (.int .u8 40), .lit (.int .u8 15), .lit (.int .u8 34), .lit (.int .u8 20), .lit (.int .u8 31), .lit (.int .u8 10), .lit (.int .u8 25), .lit (.int .u8 14), .lit (.int .u8 19), .lit (.int .u8 9), .lit (.int .u8 13), .lit (.int .u8 8), .lit (.int .u8 7), .lit (.int .u8 6)]
def laid_internal_strconv_uint64pow10 {H : Type} : DataW H := .agg [.lit (.int .u64 1), .lit (.int .u64 10), .lit (.int .u64 100), .lit (.int .u64 1000), .lit (.int .u64 10000), .lit (.int .u64 100000), .lit (.int .u64 1000000), .lit (.int .u64 10000000), .lit (.int .u64 100000000), .lit (.int .u64 1000000000), .lit (.int .u64 10000000000), .lit (.int .u64 100000000000), .lit (.int .u64 1000000000000), .lit (.int .u64 10000000000000), .lit (.int .u64 100000000000000), .lit (.int .u64 1000000000000000), .lit (.int .u64 10000000000000000), .lit (.int .u64 100000000000000000), .lit (.int .u64 1000000000000000000), .lit (.int .u64 10000000000000000000)]
def laid_strconv_ErrRange {H : Type} : DataW H := .iface "*errors.errorString" (.ptr (.agg [.lit (.string [118, 97, 108, 117, 101, 32, 111, 117, 116, 32, 111, 102, 32, 114, 97, 110, 103, 101])]))
def laid_strconv_ErrSyntax {H : Type} : DataW H := .iface "*errors.errorString" (.ptr (.agg [.lit (.string [105, 110, 118, 97, 108, 105, 100, 32, 115, 121, 110, 116, 97, 120])]))
def laid_parley_events_shapes {H : Type} : DataW H := .agg [.agg [.lit (.string []), .lit (.bool false), .lit (.bool false), .lit (.bool false)], .agg [.lit (.string [98, 101, 103, 105, 110]), .lit (.bool false), .lit (.bool true), .lit (.bool false)], .agg [.lit (.string [114, 101, 97, 100]), .lit (.bool true), .lit (.bool true), .lit (.bool false)], .agg [.lit (.string [119, 114, 105, 116, 101]), .lit (.bool true), .lit (.bool true), .lit (.bool false)], .agg [.lit (.string [109, 111, 118, 101, 100]), .lit (.bool false), .lit (.bool true), .lit (.bool false)], .agg [.lit (.string [108, 111, 99, 107, 101, 100]), .lit (.bool false), .lit (.bool false), .lit (.bool false)], .agg [.lit (.string [99, 111, 109, 109, 105, 116, 116, 101, 100]), .lit (.bool false), .lit (.bool true), .lit (.bool false)], .agg [.lit (.string [115, 116, 97, 108, 101]), .lit (.bool false), .lit (.bool false), .lit (.bool false)], .agg [.lit (.string [97, 98, 111, 114, 116, 101, 100]), .lit (.bool false), .lit (.bool false), .lit (.bool false)], .agg [.lit (.string [102, 97, 105, 108, 101, 100]), .lit (.bool false), .lit (.bool false), .lit (.bool true)], .agg [.lit (.string [108, 111, 97, 100, 101, 100]), .lit (.bool true), .lit (.bool true), .lit (.bool false)], .agg [.lit (.string [115, 116, 111, 114, 101, 100]), .lit (.bool true), .lit (.bool true), .lit (.bool false)], .agg [.lit (.string [104, 97, 108, 116, 101, 100]), .lit (.bool false), .lit (.bool false), .lit (.bool false)]]
def laid_parley_events_turns {H : Type} : DataW H := .agg [.agg [.lit (.int .i64 0), .lit (.int .i64 0), .lit (.int .i64 0), .lit (.int .i64 0), .lit (.int .i64 0), .lit (.int .i64 0), .lit (.int .i64 0), .lit (.int .i64 0), .lit (.int .i64 0), .lit (.int .i64 0), .lit (.int .i64 0), .lit (.int .i64 0), .lit (.int .i64 0)], .agg [.lit (.int .i64 0), .lit (.int .i64 2), .lit (.int .i64 0), .lit (.int .i64 0), .lit (.int .i64 0), .lit (.int .i64 0), .lit (.int .i64 0), .lit (.int .i64 0), .lit (.int .i64 0), .lit (.int .i64 4), .lit (.int .i64 1), .lit (.int .i64 1), .lit (.int .i64 4)], .agg [.lit (.int .i64 0), .lit (.int .i64 0), .lit (.int .i64 2), .lit (.int .i64 2), .lit (.int .i64 2), .lit (.int .i64 3), .lit (.int .i64 1), .lit (.int .i64 1), .lit (.int .i64 1), .lit (.int .i64 4), .lit (.int .i64 0), .lit (.int .i64 0), .lit (.int .i64 0)], .agg [.lit (.int .i64 0), .lit (.int .i64 0), .lit (.int .i64 0), .lit (.int .i64 0), .lit (.int .i64 0), .lit (.int .i64 0), .lit (.int .i64 1), .lit (.int .i64 0), .lit (.int .i64 0), .lit (.int .i64 0), .lit (.int .i64 0), .lit (.int .i64 0), .lit (.int .i64 0)], .agg [.lit (.int .i64 0), .lit (.int .i64 0), .lit (.int .i64 0), .lit (.int .i64 0), .lit (.int .i64 0), .lit (.int .i64 0), .lit (.int .i64 0), .lit (.int .i64 0), .lit (.int .i64 0), .lit (.int .i64 0), .lit (.int .i64 0), .lit (.int .i64 0), .lit (.int .i64 0)]]

/-- 'parleylaw13.EventsCheck': WHATEVER THE INPUT: true; the input reads as it did. -/
def eventsCheckSpec : ChangeSpec := { name := "eventsCheck", fn := fun _ => fun
  | [d1, d2] => { results := [.lit (.bool true)], args := [d1, d2] }
  | _ => none }
def eventsCheckRow : OpenClaim := { program := "ytjaldfmdjnkoeaadoor", sum := "3ab7c3f6928547cbfa2387d68b164185a9f122003b40f8451ac63561307194a6", func := "parley/parleylaw13.EventsCheck", spec := "eventsCheck", inPlace := ["internal/bytealg.IndexByteString", "internal/bytealg.IndexString"], named := ["parley/events.shapes", "parley/events.turns", "internal/strconv.uint64pow10", "math/bits.deBruijn32tab", "math/bits.deBruijn64tab", "internal/bytealg.MaxLen", "strconv.ErrSyntax", "strconv.ErrRange"], apart := false, laid := [("math/bits.deBruijn32tab", laid_math_bits_deBruijn32tab), ("math/bits.deBruijn64tab", laid_math_bits_deBruijn64tab), ("internal/strconv.uint64pow10", laid_internal_strconv_uint64pow10), ("strconv.ErrRange", laid_strconv_ErrRange), ("strconv.ErrSyntax", laid_strconv_ErrSyntax), ("parley/events.shapes", laid_parley_events_shapes), ("parley/events.turns", laid_parley_events_turns)] }
def EventsCheckSaid : Prop := eventsCheckRow.holds Tryd.pinned (OpenSpec.ofChange eventsCheckSpec)

/-- ITS FALSE NEIGHBOUR: 'it returns false'. Refute it at one input. -/
def eventsCheckWrong : ChangeSpec := { name := "eventsCheck", fn := fun _ => fun
  | [d1, d2] => { results := [.lit (.bool false)], args := [d1, d2] }
  | _ => none }
def EventsCheckWrongFalsely : Prop := eventsCheckRow.holds Tryd.pinned (OpenSpec.ofChange eventsCheckWrong)

/-- 'parleylaw13.EventsTexts': WHATEVER THE INPUT: true; the input reads as it did. -/
def eventsTextsSpec : ChangeSpec := { name := "eventsTexts", fn := fun _ => fun
  | [d1, d2] => { results := [.lit (.bool true)], args := [d1, d2] }
  | _ => none }
def eventsTextsRow : OpenClaim := { program := "ytjaldfmdjnkoeaadoor", sum := "3ab7c3f6928547cbfa2387d68b164185a9f122003b40f8451ac63561307194a6", func := "parley/parleylaw13.EventsTexts", spec := "eventsTexts", inPlace := ["internal/bytealg.IndexByteString", "internal/bytealg.IndexString"], named := ["parley/events.shapes", "internal/strconv.uint64pow10", "math/bits.deBruijn32tab", "math/bits.deBruijn64tab", "parley/events.turns", "internal/bytealg.MaxLen", "strconv.ErrSyntax", "strconv.ErrRange"], apart := false, laid := [("math/bits.deBruijn32tab", laid_math_bits_deBruijn32tab), ("math/bits.deBruijn64tab", laid_math_bits_deBruijn64tab), ("internal/strconv.uint64pow10", laid_internal_strconv_uint64pow10), ("strconv.ErrRange", laid_strconv_ErrRange), ("strconv.ErrSyntax", laid_strconv_ErrSyntax), ("parley/events.shapes", laid_parley_events_shapes), ("parley/events.turns", laid_parley_events_turns)] }
def EventsTextsSaid : Prop := eventsTextsRow.holds Tryd.pinned (OpenSpec.ofChange eventsTextsSpec)

/-- ITS FALSE NEIGHBOUR: 'it returns false'. Refute it at one input. -/
def eventsTextsWrong : ChangeSpec := { name := "eventsTexts", fn := fun _ => fun
  | [d1, d2] => { results := [.lit (.bool false)], args := [d1, d2] }
  | _ => none }
def EventsTextsWrongFalsely : Prop := eventsTextsRow.holds Tryd.pinned (OpenSpec.ofChange eventsTextsWrong)

/-- 'parleylaw13.EventsParses': WHATEVER THE INPUT: true; the input reads as it did. -/
def eventsParsesSpec : ChangeSpec := { name := "eventsParses", fn := fun _ => fun
  | [d] => { results := [.lit (.bool true)], args := [d] }
  | _ => none }
def eventsParsesRow : OpenClaim := { program := "ytjaldfmdjnkoeaadoor", sum := "3ab7c3f6928547cbfa2387d68b164185a9f122003b40f8451ac63561307194a6", func := "parley/parleylaw13.EventsParses", spec := "eventsParses", inPlace := ["internal/bytealg.IndexByteString", "internal/bytealg.IndexString"], named := ["internal/bytealg.MaxLen", "parley/events.shapes", "strconv.ErrSyntax", "strconv.ErrRange", "internal/strconv.uint64pow10", "math/bits.deBruijn32tab", "math/bits.deBruijn64tab", "parley/events.turns"], apart := false, laid := [("math/bits.deBruijn32tab", laid_math_bits_deBruijn32tab), ("math/bits.deBruijn64tab", laid_math_bits_deBruijn64tab), ("internal/strconv.uint64pow10", laid_internal_strconv_uint64pow10), ("strconv.ErrRange", laid_strconv_ErrRange), ("strconv.ErrSyntax", laid_strconv_ErrSyntax), ("parley/events.shapes", laid_parley_events_shapes), ("parley/events.turns", laid_parley_events_turns)] }
def EventsParsesSaid : Prop := eventsParsesRow.holds Tryd.pinned (OpenSpec.ofChange eventsParsesSpec)

/-- ITS FALSE NEIGHBOUR: 'it returns false'. Refute it at one input. -/
def eventsParsesWrong : ChangeSpec := { name := "eventsParses", fn := fun _ => fun
  | [d] => { results := [.lit (.bool false)], args := [d] }
  | _ => none }
def EventsParsesWrongFalsely : Prop := eventsParsesRow.holds Tryd.pinned (OpenSpec.ofChange eventsParsesWrong)

/-- 'parleylaw13.EventsBack': WHATEVER THE INPUT: true; the input reads as it did. -/
def eventsBackSpec : ChangeSpec := { name := "eventsBack", fn := fun _ => fun
  | [d] => { results := [.lit (.bool true)], args := [d] }
  | _ => none }
def eventsBackRow : OpenClaim := { program := "ytjaldfmdjnkoeaadoor", sum := "3ab7c3f6928547cbfa2387d68b164185a9f122003b40f8451ac63561307194a6", func := "parley/parleylaw13.EventsBack", spec := "eventsBack", inPlace := ["internal/bytealg.IndexByteString", "internal/bytealg.IndexString"], named := ["parley/events.shapes", "parley/events.turns", "internal/strconv.uint64pow10", "math/bits.deBruijn32tab", "math/bits.deBruijn64tab", "internal/bytealg.MaxLen", "strconv.ErrSyntax", "strconv.ErrRange"], apart := false, laid := [("math/bits.deBruijn32tab", laid_math_bits_deBruijn32tab), ("math/bits.deBruijn64tab", laid_math_bits_deBruijn64tab), ("internal/strconv.uint64pow10", laid_internal_strconv_uint64pow10), ("strconv.ErrRange", laid_strconv_ErrRange), ("strconv.ErrSyntax", laid_strconv_ErrSyntax), ("parley/events.shapes", laid_parley_events_shapes), ("parley/events.turns", laid_parley_events_turns)] }
def EventsBackSaid : Prop := eventsBackRow.holds Tryd.pinned (OpenSpec.ofChange eventsBackSpec)

/-- ITS FALSE NEIGHBOUR: 'it returns false'. Refute it at one input. -/
def eventsBackWrong : ChangeSpec := { name := "eventsBack", fn := fun _ => fun
  | [d] => { results := [.lit (.bool false)], args := [d] }
  | _ => none }
def EventsBackWrongFalsely : Prop := eventsBackRow.holds Tryd.pinned (OpenSpec.ofChange eventsBackWrong)

/-- 'parleylaw13.EventsBegins': WHATEVER THE INPUT: true; the input reads as it did. -/
def eventsBeginsSpec : ChangeSpec := { name := "eventsBegins", fn := fun _ => fun
  | [d1, d2] => { results := [.lit (.bool true)], args := [d1, d2] }
  | _ => none }
def eventsBeginsRow : OpenClaim := { program := "ytjaldfmdjnkoeaadoor", sum := "3ab7c3f6928547cbfa2387d68b164185a9f122003b40f8451ac63561307194a6", func := "parley/parleylaw13.EventsBegins", spec := "eventsBegins", inPlace := ["internal/bytealg.IndexByteString", "internal/bytealg.IndexString"], named := ["parley/events.shapes", "parley/events.turns", "internal/strconv.uint64pow10", "math/bits.deBruijn32tab", "math/bits.deBruijn64tab", "internal/bytealg.MaxLen", "strconv.ErrSyntax", "strconv.ErrRange"], apart := false, laid := [("math/bits.deBruijn32tab", laid_math_bits_deBruijn32tab), ("math/bits.deBruijn64tab", laid_math_bits_deBruijn64tab), ("internal/strconv.uint64pow10", laid_internal_strconv_uint64pow10), ("strconv.ErrRange", laid_strconv_ErrRange), ("strconv.ErrSyntax", laid_strconv_ErrSyntax), ("parley/events.shapes", laid_parley_events_shapes), ("parley/events.turns", laid_parley_events_turns)] }
def EventsBeginsSaid : Prop := eventsBeginsRow.holds Tryd.pinned (OpenSpec.ofChange eventsBeginsSpec)

/-- ITS FALSE NEIGHBOUR: 'it returns false'. Refute it at one input. -/
def eventsBeginsWrong : ChangeSpec := { name := "eventsBegins", fn := fun _ => fun
  | [d1, d2] => { results := [.lit (.bool false)], args := [d1, d2] }
  | _ => none }
def EventsBeginsWrongFalsely : Prop := eventsBeginsRow.holds Tryd.pinned (OpenSpec.ofChange eventsBeginsWrong)

/-- 'parleylaw13.EventsSwaps': WHATEVER THE INPUT: true; the input reads as it did. -/
def eventsSwapsSpec : ChangeSpec := { name := "eventsSwaps", fn := fun _ => fun
  | [d1, d2] => { results := [.lit (.bool true)], args := [d1, d2] }
  | _ => none }
def eventsSwapsRow : OpenClaim := { program := "ytjaldfmdjnkoeaadoor", sum := "3ab7c3f6928547cbfa2387d68b164185a9f122003b40f8451ac63561307194a6", func := "parley/parleylaw13.EventsSwaps", spec := "eventsSwaps", inPlace := ["internal/bytealg.IndexByteString", "internal/bytealg.IndexString"], named := ["parley/events.shapes", "parley/events.turns", "internal/strconv.uint64pow10", "math/bits.deBruijn32tab", "math/bits.deBruijn64tab", "internal/bytealg.MaxLen", "strconv.ErrSyntax", "strconv.ErrRange"], apart := false, laid := [("math/bits.deBruijn32tab", laid_math_bits_deBruijn32tab), ("math/bits.deBruijn64tab", laid_math_bits_deBruijn64tab), ("internal/strconv.uint64pow10", laid_internal_strconv_uint64pow10), ("strconv.ErrRange", laid_strconv_ErrRange), ("strconv.ErrSyntax", laid_strconv_ErrSyntax), ("parley/events.shapes", laid_parley_events_shapes), ("parley/events.turns", laid_parley_events_turns)] }
def EventsSwapsSaid : Prop := eventsSwapsRow.holds Tryd.pinned (OpenSpec.ofChange eventsSwapsSpec)

/-- ITS FALSE NEIGHBOUR: 'it returns false'. Refute it at one input. -/
def eventsSwapsWrong : ChangeSpec := { name := "eventsSwaps", fn := fun _ => fun
  | [d1, d2] => { results := [.lit (.bool false)], args := [d1, d2] }
  | _ => none }
def EventsSwapsWrongFalsely : Prop := eventsSwapsRow.holds Tryd.pinned (OpenSpec.ofChange eventsSwapsWrong)

/- THE SECOND FORM. 'bulk': how many values and letters a reading holds, each counted each time it is reached (what is shared counts as often as it is met; a slice's spare places count too). A statement '..UptoSaid' is the law's where the arguments, and the package variables that the reading takes, are together of bulk at most 1048576: NARROWER than '..Said'. Prove '..Said' where nothing that the law and all that it calls make is longer than what came in: it says more and counts as full. Else prove '..UptoSaid'. A law counts once. -/
mutual
def uptoBulk {H : Type} : DataW H → Nat
  | .lit (.string bytes) => bytes.length + 1
  | .lit _ => 1
  | .nil => 1
  | .ptr d => uptoBulk d + 1
  | .slice elems spare => uptoBulkAll elems + uptoBulkAll spare + 1
  | .agg parts => uptoBulkAll parts + 1
  | .iface _ d => uptoBulk d + 1
  | .map entries => uptoBulkEntries entries + 1
  | .held _ => 1
def uptoBulkAll {H : Type} : List (DataW H) → Nat
  | [] => 0
  | d :: r => uptoBulk d + uptoBulkAll r
def uptoBulkEntries {H : Type} : List (Lit × DataW H) → Nat
  | [] => 0
  | x :: r => uptoBulkEntry x + uptoBulkEntries r
def uptoBulkEntry {H : Type} : Lit × DataW H → Nat
  | (.string bytes, d) => bytes.length + uptoBulk d + 1
  | (_, d) => uptoBulk d + 1
 end
def uptoSmall : (H : Type) → List (DataW H) → Bool := fun _ ds => decide (uptoBulkAll ds ≤ 1048576)
def OpenSpec.upto (s : _root_.Go.ChangeSpec) : _root_.Go.OpenSpec := { _root_.Go.OpenSpec.ofChange s with cond := some uptoSmall }

/-- 'parleylaw13.EventsCheck', WHERE WHAT IT READS IS OF BULK AT MOST 1048576: true; the input reads as it did. -/
def eventsCheckUptoRow : OpenClaim := { program := "ytjaldfmdjnkoeaadoor", sum := "3ab7c3f6928547cbfa2387d68b164185a9f122003b40f8451ac63561307194a6", func := "parley/parleylaw13.EventsCheck", spec := "eventsCheck", inPlace := ["internal/bytealg.IndexByteString", "internal/bytealg.IndexString"], named := ["parley/events.shapes", "parley/events.turns", "internal/strconv.uint64pow10", "math/bits.deBruijn32tab", "math/bits.deBruijn64tab", "internal/bytealg.MaxLen", "strconv.ErrSyntax", "strconv.ErrRange"], apart := false, laid := [("math/bits.deBruijn32tab", laid_math_bits_deBruijn32tab), ("math/bits.deBruijn64tab", laid_math_bits_deBruijn64tab), ("internal/strconv.uint64pow10", laid_internal_strconv_uint64pow10), ("strconv.ErrRange", laid_strconv_ErrRange), ("strconv.ErrSyntax", laid_strconv_ErrSyntax), ("parley/events.shapes", laid_parley_events_shapes), ("parley/events.turns", laid_parley_events_turns)], narrowed := true }
def EventsCheckUptoSaid : Prop := eventsCheckUptoRow.holds Tryd.pinned (OpenSpec.upto eventsCheckSpec)

/-- 'parleylaw13.EventsTexts', WHERE WHAT IT READS IS OF BULK AT MOST 1048576: true; the input reads as it did. -/
def eventsTextsUptoRow : OpenClaim := { program := "ytjaldfmdjnkoeaadoor", sum := "3ab7c3f6928547cbfa2387d68b164185a9f122003b40f8451ac63561307194a6", func := "parley/parleylaw13.EventsTexts", spec := "eventsTexts", inPlace := ["internal/bytealg.IndexByteString", "internal/bytealg.IndexString"], named := ["parley/events.shapes", "internal/strconv.uint64pow10", "math/bits.deBruijn32tab", "math/bits.deBruijn64tab", "parley/events.turns", "internal/bytealg.MaxLen", "strconv.ErrSyntax", "strconv.ErrRange"], apart := false, laid := [("math/bits.deBruijn32tab", laid_math_bits_deBruijn32tab), ("math/bits.deBruijn64tab", laid_math_bits_deBruijn64tab), ("internal/strconv.uint64pow10", laid_internal_strconv_uint64pow10), ("strconv.ErrRange", laid_strconv_ErrRange), ("strconv.ErrSyntax", laid_strconv_ErrSyntax), ("parley/events.shapes", laid_parley_events_shapes), ("parley/events.turns", laid_parley_events_turns)], narrowed := true }
def EventsTextsUptoSaid : Prop := eventsTextsUptoRow.holds Tryd.pinned (OpenSpec.upto eventsTextsSpec)

/-- 'parleylaw13.EventsParses', WHERE WHAT IT READS IS OF BULK AT MOST 1048576: true; the input reads as it did. -/
def eventsParsesUptoRow : OpenClaim := { program := "ytjaldfmdjnkoeaadoor", sum := "3ab7c3f6928547cbfa2387d68b164185a9f122003b40f8451ac63561307194a6", func := "parley/parleylaw13.EventsParses", spec := "eventsParses", inPlace := ["internal/bytealg.IndexByteString", "internal/bytealg.IndexString"], named := ["internal/bytealg.MaxLen", "parley/events.shapes", "strconv.ErrSyntax", "strconv.ErrRange", "internal/strconv.uint64pow10", "math/bits.deBruijn32tab", "math/bits.deBruijn64tab", "parley/events.turns"], apart := false, laid := [("math/bits.deBruijn32tab", laid_math_bits_deBruijn32tab), ("math/bits.deBruijn64tab", laid_math_bits_deBruijn64tab), ("internal/strconv.uint64pow10", laid_internal_strconv_uint64pow10), ("strconv.ErrRange", laid_strconv_ErrRange), ("strconv.ErrSyntax", laid_strconv_ErrSyntax), ("parley/events.shapes", laid_parley_events_shapes), ("parley/events.turns", laid_parley_events_turns)], narrowed := true }
def EventsParsesUptoSaid : Prop := eventsParsesUptoRow.holds Tryd.pinned (OpenSpec.upto eventsParsesSpec)

/-- 'parleylaw13.EventsBack', WHERE WHAT IT READS IS OF BULK AT MOST 1048576: true; the input reads as it did. -/
def eventsBackUptoRow : OpenClaim := { program := "ytjaldfmdjnkoeaadoor", sum := "3ab7c3f6928547cbfa2387d68b164185a9f122003b40f8451ac63561307194a6", func := "parley/parleylaw13.EventsBack", spec := "eventsBack", inPlace := ["internal/bytealg.IndexByteString", "internal/bytealg.IndexString"], named := ["parley/events.shapes", "parley/events.turns", "internal/strconv.uint64pow10", "math/bits.deBruijn32tab", "math/bits.deBruijn64tab", "internal/bytealg.MaxLen", "strconv.ErrSyntax", "strconv.ErrRange"], apart := false, laid := [("math/bits.deBruijn32tab", laid_math_bits_deBruijn32tab), ("math/bits.deBruijn64tab", laid_math_bits_deBruijn64tab), ("internal/strconv.uint64pow10", laid_internal_strconv_uint64pow10), ("strconv.ErrRange", laid_strconv_ErrRange), ("strconv.ErrSyntax", laid_strconv_ErrSyntax), ("parley/events.shapes", laid_parley_events_shapes), ("parley/events.turns", laid_parley_events_turns)], narrowed := true }
def EventsBackUptoSaid : Prop := eventsBackUptoRow.holds Tryd.pinned (OpenSpec.upto eventsBackSpec)

/-- 'parleylaw13.EventsBegins', WHERE WHAT IT READS IS OF BULK AT MOST 1048576: true; the input reads as it did. -/
def eventsBeginsUptoRow : OpenClaim := { program := "ytjaldfmdjnkoeaadoor", sum := "3ab7c3f6928547cbfa2387d68b164185a9f122003b40f8451ac63561307194a6", func := "parley/parleylaw13.EventsBegins", spec := "eventsBegins", inPlace := ["internal/bytealg.IndexByteString", "internal/bytealg.IndexString"], named := ["parley/events.shapes", "parley/events.turns", "internal/strconv.uint64pow10", "math/bits.deBruijn32tab", "math/bits.deBruijn64tab", "internal/bytealg.MaxLen", "strconv.ErrSyntax", "strconv.ErrRange"], apart := false, laid := [("math/bits.deBruijn32tab", laid_math_bits_deBruijn32tab), ("math/bits.deBruijn64tab", laid_math_bits_deBruijn64tab), ("internal/strconv.uint64pow10", laid_internal_strconv_uint64pow10), ("strconv.ErrRange", laid_strconv_ErrRange), ("strconv.ErrSyntax", laid_strconv_ErrSyntax), ("parley/events.shapes", laid_parley_events_shapes), ("parley/events.turns", laid_parley_events_turns)], narrowed := true }
def EventsBeginsUptoSaid : Prop := eventsBeginsUptoRow.holds Tryd.pinned (OpenSpec.upto eventsBeginsSpec)

/-- 'parleylaw13.EventsSwaps', WHERE WHAT IT READS IS OF BULK AT MOST 1048576: true; the input reads as it did. -/
def eventsSwapsUptoRow : OpenClaim := { program := "ytjaldfmdjnkoeaadoor", sum := "3ab7c3f6928547cbfa2387d68b164185a9f122003b40f8451ac63561307194a6", func := "parley/parleylaw13.EventsSwaps", spec := "eventsSwaps", inPlace := ["internal/bytealg.IndexByteString", "internal/bytealg.IndexString"], named := ["parley/events.shapes", "parley/events.turns", "internal/strconv.uint64pow10", "math/bits.deBruijn32tab", "math/bits.deBruijn64tab", "internal/bytealg.MaxLen", "strconv.ErrSyntax", "strconv.ErrRange"], apart := false, laid := [("math/bits.deBruijn32tab", laid_math_bits_deBruijn32tab), ("math/bits.deBruijn64tab", laid_math_bits_deBruijn64tab), ("internal/strconv.uint64pow10", laid_internal_strconv_uint64pow10), ("strconv.ErrRange", laid_strconv_ErrRange), ("strconv.ErrSyntax", laid_strconv_ErrSyntax), ("parley/events.shapes", laid_parley_events_shapes), ("parley/events.turns", laid_parley_events_turns)], narrowed := true }
def EventsSwapsUptoSaid : Prop := eventsSwapsUptoRow.holds Tryd.pinned (OpenSpec.upto eventsSwapsSpec)

end Rows
end Go.Proofs.YtjaldfmdjnkoeaaDoor
