
/-
  Walks of the program's Of and Copy (package cells). No statement of the seat is proved here.
-/
import Derived.Test.YtlldffbohojppaaCRowE
namespace Go.Proofs.Ytlldffbohojppaa
open Go.RowKit

set_option maxHeartbeats 400000 in
theorem of_no (sp : Option Addr) (l c : Nat) (w : World) (h : l < 1 ∨ 65536 < l) : Calls Try.prog 21 #[.slice sp l c] w fun e w' => e = .returned (.tuple #[.pointer none, .int .i64 2]) ∧ w' = w := by
  by_cases h1 : (l : Int) < 1
  · go_enter Try.func21, Try.ntmps21
    go_wp2
    go_ret2
    exact ⟨rfl, rfl⟩
  · have h2 : (65536 : Int) < l := by omega
    go_enter Try.func21, Try.ntmps21
    go_wp2
    go_ret2
    exact ⟨rfl, rfl⟩

theorem row_made {w w1 : World} {ws : List Int} (hb : w1.heap[w.heap.size]? = some (.cells (u64s ws) 22 (0, 0))) (hz : w1.heap.size = w.heap.size + 1) (h1 : 1 ≤ ws.length) (h2 : ws.length ≤ 65536) :
    RowAt (w1.alloc (.cells #[.slice (some ⟨w.heap.size, 0, none⟩) ws.length ws.length, .int .u64 0] 68)) 68 22 (w.heap.size + 1) w.heap.size ws 0 :=
  ⟨by rw [← hz]; exact (MapKept.heap_alloc w1 _).1, (Below.heap_alloc _ _ _ (by omega)).trans hb, by omega, h1, h2⟩

set_option maxHeartbeats 400000 in
theorem of_yes (sp : Option Addr) (l c : Nat) (ws : List Int) (w : World) (hn : ws.length = l) (hr : Reads w sp ws) (h1 : 1 ≤ l) (h2 : l ≤ 65536) :
    Calls Try.prog 21 #[.slice sp l c] w fun e w' => e = .returned (.tuple #[.pointer (some ⟨w.heap.size + 1, 0, none⟩), .int .i64 0]) ∧ RowAt w' 68 22 (w.heap.size + 1) w.heap.size ws 0 ∧ Keeps (fun _ => False) w w' := by
  have h3 : ¬ (l : Int) < 1 := by omega
  have h4 : ¬ (65536 : Int) < l := by omega
  subst hn
  go_enter Try.func21, Try.ntmps21
  go_wp2_with fail
  refine (clone_any sp ws.length c ws _ rfl h2 hr).mono ?_
  rintro e w1 ⟨rfl, hb, hz, hk⟩
  have hm := row_made hb hz h1 h2
  have HZ : Hid (w1.heap.size = w.heap.size + 1) := hz
  clear hb hz hr
  go_wp2
  go_ret2
  refine ⟨?_, hm, hk.alloc _⟩
  rw [HZ.out]
  rfl

set_option maxHeartbeats 400000 in
theorem copy_at (b c : Nat) (ws : List Int) (n : Int) (w : World) (h : RowAt w 68 22 b c ws n) :
    Calls Try.prog 23 #[.pointer (some ⟨b, 0, none⟩)] w fun e w' => e = .returned (.pointer (some ⟨w.heap.size + 1, 0, none⟩)) ∧ RowAt w' 68 22 (w.heap.size + 1) w.heap.size ws 0 ∧ Keeps (fun _ => False) w w' := by
  have c0 := h.cell0
  have hp := h.pos
  have hle := h.le
  have hd : decide (0 < ws.length) = true := by simp; omega
  go_enter Try.func23, Try.ntmps23
  go_wp2_with fail
  refine (made_at b _ ws.length ws.length _ c0).mono ?_
  rintro e w' ⟨rfl, rfl⟩
  go_wp2_with fail
  refine (clone_any _ ws.length ws.length ws _ rfl h.le (Reads.block h.words)).mono ?_
  rintro e w1 ⟨rfl, hb, hz, hk⟩
  have hm := row_made hb hz hp hle
  have HZ : Hid (w1.heap.size = w'.heap.size + 1) := hz
  clear hb hz
  go_wp2
  go_ret
  refine ⟨?_, hm, hk.alloc _⟩
  rw [HZ.out]
  rfl

end Go.Proofs.Ytlldffbohojppaa
