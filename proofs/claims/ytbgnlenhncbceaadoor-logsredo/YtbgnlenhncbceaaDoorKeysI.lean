
/-
  The walk of the program's Keys. No statement of the seat is proved here.
-/
import Derived.Test.YtbgnlenhncbceaaDoorPutGI
import Derived.WalkSpells
import Derived.Test.YtbgnlenhncbceaaDoorWords
namespace Go.Proofs.YtbgnlenhncbceaaDoor.I
open Go.RowKit Go.Shelf
attribute [local go_sem] Oper.semAt_some

end Go.Proofs.YtbgnlenhncbceaaDoor.I
