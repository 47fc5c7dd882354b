
/- WitnessBlocks: the law, of all places. No statement of the seat is proved here. -/
import Derived.Test.YtjkileijkgbndaaDoorWiW1
import Derived.Test.YtjkileijkgbndaaDoorWiW2
import Derived.Test.YtjkileijkgbndaaDoorWiW3
namespace Go.Proofs.YtjkileijkgbndaaDoor
open Go.RowKit Go.Shelf

theorem blocks_law (v : Value) (L : List Ev) (a b : Int) (w : World) (hv : EvsAt w v L) (hg : Gv w) (h8 : 2 ≤ w.heap.size) : Calls Tryd.prog 3 #[v, .int .i64 a, .int .i64 b] w fun ex w' => ex = .returned (.bool true) ∧ Keeps (fun _ => False) w w' := by
  by_cases h0 : 0 ≤ a ∧ 0 ≤ b
  · by_cases h1 : a < (partsL L).length ∧ b < (partsL L).length
    · exact blocks_law1 v L a b ⟨h0.1, h0.2, h1.1, h1.2⟩ w hv hg h8
    · exact blocks_law2 v L a b ⟨h0.1, h0.2, h1⟩ w hv hg h8
  · exact blocks_law3 v L a b h0 w hv hg h8
end Go.Proofs.YtjkileijkgbndaaDoor
