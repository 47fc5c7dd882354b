
/- Walks of digits (package code): a number in decimal digits. No statement of the seat is proved here. -/
import Derived.Test.YtjkileijkgbndaaDoorCdB
import Derived.Lib.ItoaNum
import Derived.Laws.IdiomStrings
namespace Go.Proofs.YtjkileijkgbndaaDoor
open Go.RowKit

def zeros20 : Array Value := #[.int .u8 0, .int .u8 0, .int .u8 0, .int .u8 0, .int .u8 0, .int .u8 0, .int .u8 0, .int .u8 0, .int .u8 0, .int .u8 0, .int .u8 0, .int .u8 0, .int .u8 0, .int .u8 0, .int .u8 0, .int .u8 0, .int .u8 0, .int .u8 0, .int .u8 0, .int .u8 0]

/-- Bytes of a block from place m on. -/
def Tail (c : Array Value) (m : Nat) (l : List UInt8) : Prop := c.size = 20 ∧ m + l.length = 20 ∧ ∀ j (hj : j < l.length), c[m + j]? = some (.int .u8 (l[j]).toNat)
theorem Tail.nil : Tail zeros20 20 [] := ⟨rfl, rfl, fun j hj => by simp at hj⟩
theorem Tail.cons {c : Array Value} {m : Nat} {l : List UInt8} (h : Tail c (m + 1) l) (x : UInt8) : Tail (c.setIfInBounds m (.int .u8 x.toNat)) m (x :: l) := by
  obtain ⟨h1, h2, h3⟩ := h
  refine ⟨by simpa using h1, by simp; omega, ?_⟩
  intro j hj
  cases j with
  | zero => simp [Array.getElem?_setIfInBounds, h1]; omega
  | succ j =>
    rw [Array.getElem?_setIfInBounds_ne (by omega)]
    have := h3 j (by simpa using hj)
    rw [show m + (j + 1) = m + 1 + j by omega, this]
    simp

theorem byte_of (d : Nat) (hd : d < 10) : (UInt8.ofNat (48 + d)).toNat = 48 + d := by
  simp; omega

end Go.Proofs.YtjkileijkgbndaaDoor
