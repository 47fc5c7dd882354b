
/- Walks of the document's Text (package parleyref08). No statement of the seat is proved here. -/
import Derived.Test.YtijommlodgpphaaDoorRfF
namespace Go.Proofs.YtijommlodgpphaaDoor
open Go.RowKit Go.Shelf

/-- The registers of an instruction that it has. -/
def regL (i : I5) : List Int := [i.a, i.b, i.c].take (regsN i.op)
theorem numL_eq {i : I5} (h : formedB i = true) : numL i = regL i ++ (if numB i.op then [i.n] else []) := by
  obtain ⟨⟨h0, h1⟩, -⟩ := formed_facts h
  obtain ⟨op, a, b, c, n⟩ := i
  dsimp only at h0 h1
  have hrn : (regsN op = 0 ∧ numB op = false) ∨ (regsN op = 0 ∧ numB op = true) ∨ (regsN op = 1 ∧ numB op = true) ∨ (regsN op = 2 ∧ numB op = false) ∨ (regsN op = 3 ∧ numB op = false) := by
    rcases op17 h0 h1 with rfl | rfl | rfl | rfl | rfl | rfl | rfl | rfl | rfl | rfl | rfl | rfl | rfl | rfl | rfl | rfl | rfl <;> decide
  unfold numL num3 regL partsN
  dsimp only
  rcases hrn with ⟨hr, hn⟩ | ⟨hr, hn⟩ | ⟨hr, hn⟩ | ⟨hr, hn⟩ | ⟨hr, hn⟩ <;> rw [hr, hn] <;> rfl

end Go.Proofs.YtijommlodgpphaaDoor
