
/-
  Walks of the program's New (cells.New), of the law's small row 'known', and what they leave in memory. No statement of the seat is proved here.
-/
import Derived.Test.YtlldffbohojppaaCRowC
namespace Go.Proofs.Ytlldffbohojppaa
open Go.RowKit

theorem info36 : (Try.prog.info? 22).map (fun i => (i.zero, i.size, i.bytes)) = some (some (.int .u64 0), 1, 8) := by kernel_rfl

/-- 'make([]uint64, n)' at any number of cells within reach. -/
theorem run_make36 (w : World) (n : Int) (h0 : 0 ≤ n) (h1 : n ≤ 35184372088832) :
    (Instr.makeSlice 43 (.int .i64 n) (.int .i64 n)).run Try.prog w = .ok (.slice (some ⟨w.heap.size, 0, none⟩) n.toNat n.toNat) (w.alloc (.cells (u64s (List.replicate n.toNat 0)) 22)) := by
  obtain ⟨i0, hi, hz0, hz1, hz2⟩ := info_parts info36
  have h := run_make (P := Try.prog) w 43 22 i0 (.int .u64 0) Try.underlying43 hi hz0 .i64 .i64 n n h0 (Int.le_refl _) (by rw [hz2]; omega) (by omega)
  rw [hz1, Nat.mul_one, madeCells_u64] at h
  exact h

end Go.Proofs.Ytlldffbohojppaa
