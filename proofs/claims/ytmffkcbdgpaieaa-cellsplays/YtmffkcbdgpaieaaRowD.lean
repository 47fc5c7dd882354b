/-
  Walks of the program's New (cells.New), of the law's small row 'known', and what they leave in memory. No statement of the seat is proved here.
-/
import Derived.Test.YtmffkcbdgpaieaaRowC
namespace Go.Proofs.Ytmffkcbdgpaieaa
open Go.RowKit

theorem info36 : (Try.prog.info? 36).map (fun i => (i.zero, i.size, i.bytes)) = some (some (.int .u64 0), 1, 8) := by kernel_rfl

/-- 'make([]uint64, n)' at any number of cells within reach. -/
theorem run_make36 (w : World) (n : Int) (h0 : 0 ≤ n) (h1 : n ≤ 35184372088832) :
    (Instr.makeSlice 22 (.int .i64 n) (.int .i64 n)).run Try.prog w = .ok (.slice (some ⟨w.heap.size, 0, none⟩) n.toNat n.toNat) (w.alloc (.cells (u64s (List.replicate n.toNat 0)) 36)) := by
  obtain ⟨i0, hi, hz0, hz1, hz2⟩ := info_parts info36
  have h := run_make (P := Try.prog) w 22 36 i0 (.int .u64 0) Try.underlying22 hi hz0 .i64 .i64 n n h0 (Int.le_refl _) (by rw [hz2]; omega) (by omega)
  rw [hz1, Nat.mul_one, madeCells_u64] at h
  exact h

set_option maxHeartbeats 400000 in
theorem new_no (n : Int) (w : World) (h : n < 1 ∨ 65536 < n) : Calls Try.prog 9 #[.int .i64 n] w fun e w' => e = .returned (.tuple #[.pointer none, .int .i64 2]) ∧ w' = w := by
  by_cases h1 : n < 1
  · go_enter Try.func9, Try.ntmps9
    go_wp2
    go_ret2
    exact ⟨rfl, rfl⟩
  · have h2 : 65536 < n := by omega
    go_enter Try.func9, Try.ntmps9
    go_wp2
    go_ret2
    exact ⟨rfl, rfl⟩

set_option maxHeartbeats 400000 in
theorem new_yes (n : Int) (w : World) (h1 : 1 ≤ n) (h2 : n ≤ 65536) : Calls Try.prog 9 #[.int .i64 n] w fun e w' =>
    e = .returned (.tuple #[.pointer (some ⟨w.heap.size + 1, 0, none⟩), .int .i64 0]) ∧ RowAt w' 74 36 (w.heap.size + 1) w.heap.size (List.replicate n.toNat 0) 0 ∧ Keeps (fun _ => False) w w' := by
  have hmk := run_make36 w n (by omega) (by omega)
  have h3 : ¬ n < 1 := by omega
  have h4 : ¬ 65536 < n := by omega
  generalize hx : u64s (List.replicate n.toNat 0) = x at hmk
  have HX : Hid (u64s (List.replicate n.toNat 0) = x) := hx
  clear hx
  go_enter Try.func9, Try.ntmps9
  go_wp2
  go_ret2
  refine ⟨rfl, ⟨?_, ?_, by omega, by simp; omega, by simp; omega⟩, ((Keeps.refl _ w).alloc _).alloc _⟩
  · rw [List.length_replicate]
    have := (MapKept.heap_alloc (w.alloc (.cells x 36)) (.cells #[.slice (some ⟨w.heap.size, 0, none⟩) n.toNat n.toNat, .int .u64 0] 74)).1
    simpa using this
  · rw [HX.out, Below.heap_alloc _ _ _ (by simp)]
    exact (MapKept.heap_alloc w _).1

end Go.Proofs.Ytmffkcbdgpaieaa
