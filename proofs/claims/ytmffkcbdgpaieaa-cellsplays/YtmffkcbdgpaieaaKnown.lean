/-
  The walk of the law's small row 'known': it returns true, and turns nothing that was there. No statement of the seat is proved here.
-/
import Derived.Test.YtmffkcbdgpaieaaRowD
namespace Go.Proofs.Ytmffkcbdgpaieaa
open Go.RowKit

section
variable (b c : Nat) (w : World)
theorem k_new : Calls Try.prog 9 #[.int .i64 3] w fun e w' => e = .returned (.tuple #[.pointer (some ⟨w.heap.size + 1, 0, none⟩), .int .i64 0]) ∧ RowAt w' 74 36 (w.heap.size + 1) w.heap.size [0, 0, 0] 0 ∧ Keeps (fun _ => False) w w' :=
  new_yes 3 w (by omega) (by omega)
theorem k_store (h : RowAt w 74 36 b c [0, 0, 0] 0) : Calls Try.prog 24 #[.pointer (some ⟨b, 0, none⟩), .int .u64 2, .int .u64 7] w fun e w' => e = .returned (.int .i64 0) ∧ RowAt w' 74 36 b c [0, 0, 7] 1 ∧ Keeps (fun k => k = b ∨ k = c) w w' := by
  have h' := store_at b c _ 0 2 7 w h (by omega)
  rw [show errAt [(0 : Int), 0, 0].length 2 = 0 from by decide +kernel, show putAt [0, 0, 0] 2 7 = [0, 0, 7] from by decide +kernel, show more 0 = 1 from by decide +kernel] at h'
  exact h'
theorem k_load3 (h : RowAt w 74 36 b c [0, 0, 7] 1) : Calls Try.prog 29 #[.pointer (some ⟨b, 0, none⟩), .int .u64 3] w fun e w' => e = .returned (.tuple #[.int .u64 0, .int .i64 4]) ∧ RowAt w' 74 36 b c [0, 0, 7] 2 ∧ Keeps (fun k => k = b ∨ k = c) w w' := by
  have h' := load_at b c _ 1 3 w h (by omega)
  rw [show errAt [(0 : Int), 0, 7].length 3 = 4 from by decide +kernel, show wordAt [0, 0, 7] 3 = 0 from by decide +kernel, show more 1 = 2 from by decide +kernel] at h'
  exact h'
theorem k_swap (h : RowAt w 74 36 b c [0, 0, 7] 2) : Calls Try.prog 30 #[.pointer (some ⟨b, 0, none⟩), .int .u64 2, .int .u64 7, .int .u64 9] w fun e w' => e = .returned (.tuple #[.bool true, .int .i64 0]) ∧ RowAt w' 74 36 b c [0, 0, 9] 3 ∧ Keeps (fun k => k = b ∨ k = c) w w' := by
  have h' := swap_at b c _ 2 2 7 9 w h (by omega)
  rw [show errAt [(0 : Int), 0, 7].length 2 = 0 from by decide +kernel, show swaps [0, 0, 7] 2 7 = true from by decide +kernel, if_pos rfl, show putAt [0, 0, 7] 2 9 = [0, 0, 9] from by decide +kernel, show more 2 = 3 from by decide +kernel] at h'
  exact h'
theorem k_add (h : RowAt w 74 36 b c [0, 0, 9] 3) : Calls Try.prog 34 #[.pointer (some ⟨b, 0, none⟩), .int .u64 2, .int .u64 18446744073709551615] w fun e w' => e = .returned (.tuple #[.int .u64 9, .int .i64 0]) ∧ RowAt w' 74 36 b c [0, 0, 8] 4 ∧ Keeps (fun k => k = b ∨ k = c) w w' := by
  have h' := add_at b c _ 3 2 18446744073709551615 w h (by omega)
  rw [show errAt [(0 : Int), 0, 9].length 2 = 0 from by decide +kernel, show wordAt [0, 0, 9] 2 = 9 from by decide +kernel, show putAt [0, 0, 9] 2 (IntKind.u64.wrap (9 + 18446744073709551615)) = [0, 0, 8] from by decide +kernel, show more 3 = 4 from by decide +kernel] at h'
  exact h'
theorem k_load2 (h : RowAt w 74 36 b c [0, 0, 8] 4) : Calls Try.prog 29 #[.pointer (some ⟨b, 0, none⟩), .int .u64 2] w fun e w' => e = .returned (.tuple #[.int .u64 8, .int .i64 0]) ∧ RowAt w' 74 36 b c [0, 0, 8] 5 ∧ Keeps (fun k => k = b ∨ k = c) w w' := by
  have h' := load_at b c _ 4 2 w h (by omega)
  rw [show errAt [(0 : Int), 0, 8].length 2 = 0 from by decide +kernel, show wordAt [0, 0, 8] 2 = 8 from by decide +kernel, show more 4 = 5 from by decide +kernel] at h'
  exact h'
end

theorem keeps_new {w w1 w2 : World} {b c : Nat} (h1 : Keeps (fun _ => False) w w1) (h2 : Keeps (fun k => k = b ∨ k = c) w1 w2) (hb : w.heap.size ≤ b) (hc : w.heap.size ≤ c) : Keeps (fun _ => False) w w2 :=
  ⟨h2.os.trans h1.os, h2.tape.trans h1.tape, h2.output.trans h1.output, Nat.le_trans h1.size h2.size, fun k hk hs => (h2.block k (Nat.lt_of_lt_of_le hk h1.size) (by omega)).trans (h1.block k hk hs)⟩

set_option maxHeartbeats 400000 in
theorem known_any (w : World) : Calls Try.prog 21 #[] w fun e w' => e = .returned (.bool true) ∧ Keeps (fun _ => False) w w' := by
  go_enter Try.func21, Try.ntmps21
  go_wp2_with fail
  refine (k_new w).mono ?_
  rintro e w1 ⟨rfl, r1, k1⟩
  go_wp2_with (go_at_call 13; refine (num_any _ _).mono ?_; rintro e w' ⟨rfl, rfl⟩)
  refine (k_store _ _ _ r1).mono ?_
  rintro e w2 ⟨rfl, r2, k2⟩
  replace k2 := keeps_new k1 k2 (by omega) (by omega)
  clear k1 r1
  go_wp2_with (go_at_call 13; refine (num_any _ _).mono ?_; rintro e w' ⟨rfl, rfl⟩)
  refine (k_load3 _ _ _ r2).mono ?_
  rintro e w1 ⟨rfl, r1, k1⟩
  replace k1 := keeps_new k2 k1 (by omega) (by omega)
  clear k2 r2
  go_wp2_with fail
  refine (k_swap _ _ _ r1).mono ?_
  rintro e w2 ⟨rfl, r2, k2⟩
  replace k2 := keeps_new k1 k2 (by omega) (by omega)
  clear k1 r1
  go_wp2_with fail
  refine (k_add _ _ _ r2).mono ?_
  rintro e w1 ⟨rfl, r1, k1⟩
  replace k1 := keeps_new k2 k1 (by omega) (by omega)
  clear k2 r2
  go_wp2_with fail
  refine (k_load2 _ _ _ r1).mono ?_
  rintro e w2 ⟨rfl, r2, k2⟩
  replace k2 := keeps_new k1 k2 (by omega) (by omega)
  clear k1 r1
  have hc := r2.cell1
  clear r2
  go_wp2_with (first | (go_at_call 13; refine (num_any _ _).mono ?_; rintro e w' ⟨rfl, rfl⟩) | (go_at_call 27; refine (accesses_at _ _ _ hc).mono ?_; rintro e w' ⟨rfl, rfl⟩))
  go_ret
  exact ⟨rfl, k2⟩
end Go.Proofs.Ytmffkcbdgpaieaa
