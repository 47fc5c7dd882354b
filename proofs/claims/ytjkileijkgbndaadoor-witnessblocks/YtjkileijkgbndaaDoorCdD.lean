
/- Walks of numbers and Text (package code). No statement of the seat is proved here. -/
import Derived.Test.YtjkileijkgbndaaDoorCdC
import Derived.Deep.RegionHeld3
import Derived.Lib.ItoaLen
import Derived.Shelf.RegionOpen
namespace Go.Proofs.YtjkileijkgbndaaDoor
open Go.RowKit Go.Shelf

/-- The numbers behind a formed instruction's operation, and what stands behind them. -/
def num3 (i : I5) : List Int := if numB i.op then [i.a, i.b, i.c].set (regsN i.op) i.n else [i.a, i.b, i.c]
def numL (i : I5) : List Int := (num3 i).take (partsN i.op)

theorem formed_facts {i : I5} (h : formedB i = true) : (1 ≤ i.op ∧ i.op ≤ 17) ∧ (numB i.op = false → i.n = 0) ∧ (0 ≤ i.a ∧ i.a < 8) ∧ (0 ≤ i.b ∧ i.b < 8) ∧ (0 ≤ i.c ∧ i.c < 8) := by
  unfold formedB at h
  simp only [Bool.and_eq_true, decide_eq_true_eq, Bool.or_eq_true] at h
  obtain ⟨⟨⟨⟨h1, h2⟩, h3⟩, h4⟩, h5⟩ := h
  refine ⟨h1, fun hn => ?_, ?_, ?_, ?_⟩
  · rcases h2 with h2 | h2
    · rw [hn] at h2; cases h2
    · exact h2
  · rcases okR_yes h3 with h | h <;> omega
  · rcases okR_yes h4 with h | h <;> omega
  · rcases okR_yes h5 with h | h <;> omega

theorem heap_two (w : World) (o o' : Obj) : ((w.alloc o).alloc o').heap[w.heap.size + 1]? = some o' := by
  have := (MapKept.heap_alloc (w.alloc o) o').1
  simpa using this

/-- A text: the name, then each number behind a blank. -/
def blanked (l : List Int) : List UInt8 := l.flatMap fun n => 32 :: Lib.decDigits n.toNat
def textL (i : I5) : List UInt8 := (nms[i.op.toNat]?).getD [] ++ blanked (numL i)

theorem num3_length (i : I5) : (num3 i).length = 3 := by unfold num3; split <;> simp
theorem num3_bound {i : I5} (h : formedB i = true) (hn0 : 0 ≤ i.n) (hn : i.n < 18446744073709551616) : ∀ x ∈ num3 i, 0 ≤ x ∧ x < 18446744073709551616 := by
  obtain ⟨-, -, ha, hb, hc⟩ := formed_facts h
  intro x hx
  unfold num3 at hx
  split at hx
  · rcases List.mem_or_eq_of_mem_set hx with h | h
    · simp at h; omega
    · omega
  · simp at hx; omega

theorem str_app (l m : List UInt8) : (⟨l.toArray⟩ : ByteArray) ++ ⟨m.toArray⟩ = ⟨(l ++ m).toArray⟩ := by
  apply ByteArray.ext
  simp

end Go.Proofs.YtjkileijkgbndaaDoor
