
/- Walks of the document's Named (package parleyref08), and CodeInfo's walk. No statement of the seat is proved here. -/
import Derived.Test.YtijommlodgpphaaDoorRfC
namespace Go.Proofs.YtijommlodgpphaaDoor
open Go.RowKit Go.Shelf

theorem npost_eq {l : List UInt8} {e : Ending} (h : NPost l e) : e = .returned (.tuple #[.int .i64 (((namedN l).getD 0 : Nat) : Int), .bool (namedN l).isSome]) := by
  rcases h with ⟨k, h1, h2, h3, rfl⟩ | ⟨h1, rfl⟩
  · rw [namedN_yes h1 h2 h3]; rfl
  · rw [namedN_no h1]; rfl

end Go.Proofs.YtijommlodgpphaaDoor
