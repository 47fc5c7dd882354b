
/-
  The walk of the program's Keys. No statement of the seat is proved here.
-/
import Derived.Test.YtljcojonchfjfaaDoorPutGI
import Derived.WalkSpells
import Derived.Test.YtljcojonchfjfaaDoorWords
namespace Go.Proofs.YtljcojonchfjfaaDoor.I
open Go.RowKit Go.Shelf
attribute [local go_sem] Oper.semAt_some

end Go.Proofs.YtljcojonchfjfaaDoor.I
