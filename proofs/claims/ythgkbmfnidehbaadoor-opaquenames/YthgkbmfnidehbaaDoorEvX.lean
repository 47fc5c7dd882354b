
/- What is kept where one's own blocks change. No statement of the seat is proved here. -/
import Derived.Test.YthgkbmfnidehbaaDoorCdM
namespace Go.Proofs.YthgkbmfnidehbaaDoor
open Go.RowKit Go.Shelf
theorem Keeps.row {S : Nat → Prop} {w W : World} {b : Nat} (h : Keeps S w W) (hb : w.heap.size ≤ b) (cs : Array Value) : Keeps S w (W.setRow b cs) :=
  ⟨h.os, h.tape, h.output, by simpa [World.setRow] using h.size, fun k hk hs => by
    rw [← h.block k hk hs]
    simp [World.setRow, Array.getElem?_modify, show ¬ b = k by omega]⟩
/-- What is changed in one's own blocks alone. -/
theorem Keeps.young {S : Nat → Prop} {w a b : World} (h : Keeps (fun _ => False) w a) (k : Keeps S a b) (hs : ∀ q, S q → w.heap.size ≤ q) : Keeps (fun _ => False) w b :=
  ⟨k.os.trans h.os, k.tape.trans h.tape, k.output.trans h.output, Nat.le_trans h.size k.size, fun q hq _ => (k.block q (Nat.lt_of_lt_of_le hq h.size) (fun f => by have := hs q f; omega)).trans (h.block q hq (fun f => f))⟩
end Go.Proofs.YthgkbmfnidehbaaDoor
