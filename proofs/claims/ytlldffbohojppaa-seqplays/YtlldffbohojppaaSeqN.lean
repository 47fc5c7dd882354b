
/- Walks of the program's clock (package seq) that is not there: nil, or a zero one. No statement of the seat is proved here. -/
import Derived.Test.YtlldffbohojppaaSeqC
namespace Go.Proofs.Ytlldffbohojppaa
open Go.RowKit

/-- A clock that is not there. -/
def NoClk (w : World) (q : Option Addr) : Prop := q = none ∨ ∃ p, q = some ⟨p, 0, none⟩ ∧ w.cell? ⟨p, 0, none⟩ = some (.pointer none)

theorem cmade_none (q : Option Addr) (w : World) (h : NoClk w q) : Calls Try.prog 22 #[.pointer q] w fun e w' => e = .returned (.bool false) ∧ w' = w := by
  rcases h with rfl | ⟨p, rfl, h0⟩
  · exact cmade_nil w
  · exact cmade_zero p w h0

set_option maxHeartbeats 400000 in
theorem cload_none (q : Option Addr) (w : World) (h : NoClk w q) : Calls Try.prog 12 #[.pointer q] w fun e w' => e = .returned (.tuple #[.int .u64 0, .int .i64 1]) ∧ w' = w := by
  go_enter_defers Try.func12, Try.ntmps12
  go_wp2_with (go_at_call 22; refine (cmade_none q _ h).mono ?_; rintro e w' ⟨rfl, rfl⟩)
  exact ⟨_, results_tmp2 rfl _ _ _, rfl, rfl⟩

set_option maxHeartbeats 400000 in
theorem take_none (q : Option Addr) (s : Int) (w : World) (h : NoClk w q) : Calls Try.prog 16 #[.pointer q, .int .u64 s] w fun e w' => e = .returned (.tuple #[.bool false, .int .i64 1]) ∧ w' = w := by
  go_enter_defers Try.func16, Try.ntmps16
  go_wp2_with (go_at_call 22; refine (cmade_none q _ h).mono ?_; rintro e w' ⟨rfl, rfl⟩)
  exact ⟨_, results_tmp2 rfl _ _ _, rfl, rfl⟩

set_option maxHeartbeats 400000 in
theorem let_none (q : Option Addr) (s v : Int) (w : World) (h : NoClk w q) : Calls Try.prog 31 #[.pointer q, .int .u64 s, .int .u64 v] w fun e w' => e = .returned (.int .i64 1) ∧ w' = w := by
  go_enter_defers Try.func31, Try.ntmps31
  go_wp2_with (go_at_call 22; refine (cmade_none q _ h).mono ?_; rintro e w' ⟨rfl, rfl⟩)
  exact ⟨_, results_tmp rfl _ _ _, rfl, rfl⟩

set_option maxHeartbeats 400000 in
theorem leave_none (q : Option Addr) (s : Int) (w : World) (h : NoClk w q) : Calls Try.prog 17 #[.pointer q, .int .u64 s] w fun e w' => e = .returned (.int .i64 1) ∧ w' = w := by
  go_enter Try.func17, Try.ntmps17
  go_wp2_with (go_at_call 31; refine (let_none q _ _ _ h).mono ?_; rintro e w' ⟨rfl, rfl⟩)
  go_ret
  exact ⟨rfl, rfl⟩

set_option maxHeartbeats 400000 in
theorem back_none (q : Option Addr) (s : Int) (w : World) (h : NoClk w q) : Calls Try.prog 18 #[.pointer q, .int .u64 s] w fun e w' => e = .returned (.int .i64 1) ∧ w' = w := by
  go_enter Try.func18, Try.ntmps18
  go_wp2_with (go_at_call 31; refine (let_none q _ _ _ h).mono ?_; rintro e w' ⟨rfl, rfl⟩)
  go_ret
  exact ⟨rfl, rfl⟩

set_option maxHeartbeats 400000 in
theorem steps_none (q : Option Addr) (w : World) (h : NoClk w q) : Calls Try.prog 11 #[.pointer q] w fun e w' => e = .returned (.int .i64 0) ∧ w' = w := by
  go_enter Try.func11, Try.ntmps11
  go_wp2_with (go_at_call 22; refine (cmade_none q _ h).mono ?_; rintro e w' ⟨rfl, rfl⟩)
  go_ret
  exact ⟨rfl, rfl⟩

set_option maxHeartbeats 400000 in
theorem ccopy_none (q : Option Addr) (w : World) (h : NoClk w q) : Calls Try.prog 9 #[.pointer q] w fun e w' => e = .returned (.pointer none) ∧ w' = w := by
  go_enter Try.func9, Try.ntmps9
  go_wp2_with (go_at_call 22; refine (cmade_none q _ h).mono ?_; rintro e w' ⟨rfl, rfl⟩)
  go_ret
  exact ⟨rfl, rfl⟩

set_option maxHeartbeats 400000 in
theorem nothing_any (q : Option Addr) (s : Int) (w : World) (h : NoClk w q) : Calls Try.prog 20 #[.pointer q, .int .u64 s] w fun e w' => e = .returned (.bool true) ∧ w' = w := by
  go_enter Try.func20, Try.ntmps20
  go_wp2_with (first | (go_at_call 12; refine (cload_none q _ h).mono ?_; rintro e w' ⟨rfl, rfl⟩) | (go_at_call 16; refine (take_none q _ _ h).mono ?_; rintro e w' ⟨rfl, rfl⟩) | (go_at_call 17; refine (leave_none q _ _ h).mono ?_; rintro e w' ⟨rfl, rfl⟩) | (go_at_call 18; refine (back_none q _ _ h).mono ?_; rintro e w' ⟨rfl, rfl⟩) | (go_at_call 11; refine (steps_none q _ h).mono ?_; rintro e w' ⟨rfl, rfl⟩) | (go_at_call 9; refine (ccopy_none q _ h).mono ?_; rintro e w' ⟨rfl, rfl⟩))
  go_ret
  exact ⟨rfl, rfl⟩

/-- What is new is new of what was there before. -/
theorem keeps_own {w w1 w2 : World} {p b c : Nat} (h1 : Keeps (fun _ => False) w w1) (h2 : Keeps (own3 p b c) w1 w2) (hp : w.heap.size ≤ p) (hb : w.heap.size ≤ b) (hc : w.heap.size ≤ c) : Keeps (fun _ => False) w w2 :=
  ⟨h2.os.trans h1.os, h2.tape.trans h1.tape, h2.output.trans h1.output, Nat.le_trans h1.size h2.size, fun k hk hs => (h2.block k (Nat.lt_of_lt_of_le hk h1.size) (by unfold own3; omega)).trans (h1.block k hk hs)⟩

set_option maxHeartbeats 400000 in
theorem known_any (w : World) : Calls Try.prog 13 #[] w fun e w' => e = .returned (.bool true) ∧ Keeps (fun _ => False) w w' := by
  go_enter Try.func13, Try.ntmps13
  go_wp2_with fail
  refine (new_any _).mono ?_
  rintro e w1 ⟨p, b, c, rfl, h1, k1, lp, lb, lc⟩
  go_wp2_with fail
  refine (take_at p b c 0 0 0 _ h1 (by omega) (by omega)).mono ?_
  rw [show turns 0 0 0 = true from by decide, if_pos rfl, show upw 0 1 = 1 from by decide +kernel, show inc 0 = 1 from by decide +kernel]
  rintro e w2 ⟨rfl, h2, k2⟩
  replace k2 := keeps_own k1 k2 lp lb lc
  clear k1 h1
  go_wp2_with fail
  refine (take_at p b c 1 1 0 _ h2 (by omega) (by omega)).mono ?_
  rw [show turns 1 0 0 = false from by decide, if_neg (by decide), show inc 1 = 2 from by decide +kernel]
  rintro e w1 ⟨rfl, h1, k1⟩
  replace k1 := keeps_own k2 k1 lp lb lc
  clear k2 h2
  go_wp2_with fail
  refine (leave_at p b c 1 2 0 _ h1 (by omega) (by omega)).mono ?_
  rw [show turns 1 0 (upw 0 1) = true from by decide +kernel, if_pos rfl, if_pos rfl, show upw 0 2 = 2 from by decide +kernel, show inc 2 = 3 from by decide +kernel]
  rintro e w2 ⟨rfl, h2, k2⟩
  replace k2 := keeps_own k1 k2 lp lb lc
  clear k1 h1
  go_wp2_with fail
  refine (cload_at p b c 2 3 _ h2).mono ?_
  rw [show inc 3 = 4 from by decide +kernel]
  rintro e w1 ⟨rfl, h1, k1⟩
  replace k1 := keeps_own k2 k1 lp lb lc
  clear k2 h2
  go_wp2_with (go_at_call 11; refine (steps_at p b c _ _ _ h1).mono ?_; rintro e w' ⟨rfl, rfl⟩)
  go_ret
  exact ⟨rfl, k1⟩

end Go.Proofs.Ytlldffbohojppaa
