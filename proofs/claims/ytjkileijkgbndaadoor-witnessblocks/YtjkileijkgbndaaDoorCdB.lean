
/- Walks of Info, Name, Named, Formed (package code). No statement of the seat is proved here. -/
import Derived.Test.YtjkileijkgbndaaDoorCdA
namespace Go.Proofs.YtjkileijkgbndaaDoor
open Go.RowKit

/-- What an operation is made of. -/
def formV (op : Int) : Array Value := #[.int .i64 (regsN op), .bool (numB op), .bool (tgtB op), .bool (outB op), .bool (insB op)]

/-- An instruction. -/
structure I5 where
  op : Int
  a : Int
  b : Int
  c : Int
  n : Int
@[reducible] def I5.cells (i : I5) : Array Value := #[.int .i64 i.op, .int .i64 i.a, .int .i64 i.b, .int .i64 i.c, .int .u64 i.n]
def okR (m k r : Int) : Bool := if k < m then decide (0 ≤ r ∧ r < 8) else decide (r = 0)
def formedB (i : I5) : Bool := decide (1 ≤ i.op ∧ i.op ≤ 17) && (numB i.op || decide (i.n = 0)) && okR (regsN i.op) 0 i.a && okR (regsN i.op) 1 i.b && okR (regsN i.op) 2 i.c

theorem okR_yes {m k r : Int} (h : okR m k r = true) : (k < m ∧ 0 ≤ r ∧ r < 8) ∨ (m ≤ k ∧ r = 0) := by
  unfold okR at h
  split at h
  · simp at h; left; omega
  · simp at h; right; omega
theorem okR_no {m k r : Int} (h : okR m k r = false) : (k < m ∧ 0 ≤ r ∧ 8 ≤ r) ∨ (k < m ∧ r < 0) ∨ (m ≤ k ∧ r ≠ 0) := by
  unfold okR at h
  split at h
  · simp at h; by_cases h2 : 0 ≤ r
    · left; have := h h2; omega
    · right; left; omega
  · simp at h; right; right; omega
end Go.Proofs.YtjkileijkgbndaaDoor
