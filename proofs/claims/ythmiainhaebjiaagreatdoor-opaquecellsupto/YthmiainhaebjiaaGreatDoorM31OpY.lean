/-
  No statement of the seat is proved here. (Several texts in one: OpY, OqC.)
-/
import Derived.Test.YthmiainhaebjiaaGreatDoorM23OpS
import Derived.Test.YthmiainhaebjiaaGreatDoorM25OqA

/- Walks of Sights (layer 16). No statement of the seat is proved here. -/
namespace Go.Proofs.YthmiainhaebjiaaGreatDoor
open Go.RowKit Go.Shelf

end Go.Proofs.YthmiainhaebjiaaGreatDoor


/- A walk of the document's Reads (layer 16). No statement of the seat is proved here. -/
namespace Go.Proofs.YthmiainhaebjiaaGreatDoor
open Go.RowKit Go.Shelf

end Go.Proofs.YthmiainhaebjiaaGreatDoor
