
/- Walks of the program's small functions on operations (package code): known, regs, number, where, parts, Info, Name, Named, Formed. No statement of the seat is proved here. -/
import Derived.Test.YtjkileijkgbndaaDoorProg
import Derived.Test.YtjkileijkgbndaaDoorCMem
import Derived.WalkKit
import Derived.WalkSpells
import Derived.WalkLawsBesides
namespace Go.Proofs.YtjkileijkgbndaaDoor
open Go.RowKit

/-- The operations' names, by their numbers. -/
def nms : List (List UInt8) := [[], [99, 111, 110, 115, 116], [109, 111, 118, 101], [97, 100, 100], [115, 117, 98], [109, 117, 108], [108, 101, 115, 115], [101, 113, 117, 97, 108], [106, 117, 109, 112], [122, 101, 114, 111], [108, 111, 97, 100], [115, 116, 111, 114, 101], [98, 101, 103, 105, 110], [103, 101, 116], [112, 117, 116], [101, 110, 100], [97, 98, 111, 114, 116], [104, 97, 108, 116]]
def nm (i : Nat) : ByteArray := ⟨((nms[i]?).getD []).toArray⟩
/-- How many registers, is there a number, is it a target, outside, inside. -/
def regsN (op : Int) : Nat := ([0, 1, 2, 3, 3, 3, 3, 3, 0, 1, 2, 2, 0, 2, 2, 0, 0, 0][op.toNat]?).getD 0
def numB (op : Int) : Bool := ([false, true, false, false, false, false, false, false, true, true, false, false, false, false, false, false, true, false][op.toNat]?).getD false
def tgtB (op : Int) : Bool := ([false, false, false, false, false, false, false, false, true, true, false, false, false, false, false, false, true, false][op.toNat]?).getD false
def outB (op : Int) : Bool := ([false, true, true, true, true, true, true, true, true, true, true, true, true, false, false, false, false, true][op.toNat]?).getD false
def insB (op : Int) : Bool := ([false, true, true, true, true, true, true, true, true, true, false, false, false, true, true, true, true, false][op.toNat]?).getD false
def partsN (op : Int) : Nat := if numB op then regsN op + 1 else regsN op

theorem op17 {op : Int} (h0 : 1 ≤ op) (h1 : op ≤ 17) : op = 1 ∨ op = 2 ∨ op = 3 ∨ op = 4 ∨ op = 5 ∨ op = 6 ∨ op = 7 ∨ op = 8 ∨ op = 9 ∨ op = 10 ∨ op = 11 ∨ op = 12 ∨ op = 13 ∨ op = 14 ∨ op = 15 ∨ op = 16 ∨ op = 17 := by omega
theorem regsN_le {op : Int} (h0 : 1 ≤ op) (h1 : op ≤ 17) : regsN op ≤ 3 ∧ (numB op = true → regsN op ≤ 1) := by
  rcases op17 h0 h1 with rfl | rfl | rfl | rfl | rfl | rfl | rfl | rfl | rfl | rfl | rfl | rfl | rfl | rfl | rfl | rfl | rfl <;> decide
theorem partsN_le {op : Int} (h0 : 1 ≤ op) (h1 : op ≤ 17) : partsN op ≤ 3 := by
  rcases op17 h0 h1 with rfl | rfl | rfl | rfl | rfl | rfl | rfl | rfl | rfl | rfl | rfl | rfl | rfl | rfl | rfl | rfl | rfl <;> decide

/-- The program's table of names, where it lies. -/
def Nms (w : World) : Prop := ∀ i : Nat, i < 18 → w.cell? ⟨0, i, none⟩ = some (.string (nm i))
theorem Nms.lt {w : World} (h : Nms w) : 0 < w.heap.size := World.block_lt_of_cell? _ _ (h 0 (by decide))
theorem Nms.below {w w' : World} (h : Nms w) (k : Below w.heap.size w w') : Nms w' := by
  intro i hi
  rw [← h i hi]
  simp only [World.cell?, k.block 0 h.lt]
theorem Nms.keeps {w w' : World} {S : Nat → Prop} (h : Nms w) (k : Keeps S w w') (hs : ¬ S 0) : Nms w' := by
  intro i hi
  rw [← h i hi]
  simp only [World.cell?, k.block 0 h.lt hs]

end Go.Proofs.YtjkileijkgbndaaDoor
