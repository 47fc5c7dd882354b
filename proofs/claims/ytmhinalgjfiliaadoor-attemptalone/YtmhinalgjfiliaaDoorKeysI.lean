
/-
  The walk of the program's Keys. No statement of the seat is proved here.
-/
import Derived.Test.YtmhinalgjfiliaaDoorPutGI
import Derived.WalkSpells
import Derived.Test.YtmhinalgjfiliaaDoorWords
namespace Go.Proofs.YtmhinalgjfiliaaDoor.I
open Go.RowKit Go.Shelf
attribute [local go_sem] Oper.semAt_some

end Go.Proofs.YtmhinalgjfiliaaDoor.I
