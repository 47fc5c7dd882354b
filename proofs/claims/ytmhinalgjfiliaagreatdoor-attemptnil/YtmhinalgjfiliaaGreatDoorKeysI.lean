
/-
  The walk of the program's Keys. No statement of the seat is proved here.
-/
import Derived.Test.YtmhinalgjfiliaaGreatDoorPutGI
import Derived.WalkSpells
import Derived.Test.YtmhinalgjfiliaaGreatDoorWords
namespace Go.Proofs.YtmhinalgjfiliaaGreatDoor.I
open Go.RowKit Go.Shelf
attribute [local go_sem] Oper.semAt_some

end Go.Proofs.YtmhinalgjfiliaaGreatDoor.I
