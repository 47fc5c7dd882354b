
/- EventsBegins: the law's walk (package parleylaw13). No statement of the seat is proved here. -/
import Derived.Test.YtjaldfmdjnkoeaaDoorEvBw1
import Derived.Test.YtjaldfmdjnkoeaaDoorEvBw2
import Derived.Test.YtjaldfmdjnkoeaaDoorEvBw3
import Derived.Test.YtjaldfmdjnkoeaaDoorEvBw4
namespace Go.Proofs.YtjaldfmdjnkoeaaDoor
open Go.RowKit Go.Shelf

theorem begins_law (v : Value) (L : List Ev) (cut : Int) (_h0 : -9223372036854775808 ≤ cut) (_h1 : cut < 9223372036854775808) (w : World) (hv : EvsAt w v L) (hg : Gv w) (h8 : 8 ≤ w.heap.size) :
    Calls Tryd.prog 7 #[v, .int .i64 cut] w fun ex w' => ex = .returned (.bool true) ∧ Keeps (fun _ => False) w w' := by
  obtain ⟨G, hG, hGn, hcase⟩ := good_of L
  rcases hcase with ⟨hc, rfl⟩ | ⟨hGl, hc1, hc2, hc3⟩
  · rcases Int.lt_or_le (cut.tmod ((L.length : Int) + 1)) 0 with h | h
    · exact begins1 v L cut _h0 _h1 w hv hg h8 hG hGn hc h
    · exact begins2 v L cut _h0 _h1 w hv hg h8 hG hGn hc h
  · rcases Int.lt_or_le (cut.tmod ((G : Int) + 1)) 0 with h | h
    · exact begins3 v L cut _h0 _h1 w hv hg h8 G hG hGn hGl hc1 hc2 hc3 h
    · exact begins4 v L cut _h0 _h1 w hv hg h8 G hG hGn hGl hc1 hc2 hc3 h
end Go.Proofs.YtjaldfmdjnkoeaaDoor
