
/- Walks of strconv.FormatUint at base 10, and of the document's Text (package parleyref08). No statement of the seat is proved here. -/
import Derived.Test.YtijommlodgpphaaDoorRfE
import Derived.Lib.AppendIntMem
namespace Go.Proofs.YtijommlodgpphaaDoor
open Go.RowKit Go.Shelf Go.Sort

theorem putRow_keeps {w : World} {b : Nat} (hb : w.heap.size ≤ b) {W : World} (k : Keeps (fun _ => False) w W) (off : Nat) (d : Array UInt8) : Keeps (fun _ => False) w (putRow (fun (b : UInt8) => Value.int .u8 (b.toNat : Int)) W b off d) := by
  refine ⟨k.os, k.tape, k.output, ?_, fun g hg hs => ?_⟩
  · simpa [putRow, mapBlock] using k.size
  · rw [← k.block g hg hs]
    simp [putRow, mapBlock, Array.getElem?_modify, show ¬ b = g by omega]

end Go.Proofs.YtijommlodgpphaaDoor
