
/- Calls without a tx: the statement's nothing (layer 20). No statement of the seat is proved here. -/
import Derived.Test.YthelfalmjihkdaaRmJ
namespace Go.Proofs.Ythelfalmjihkdaa
open Go.RowKit

set_option maxHeartbeats 1000000 in
theorem may_nil (n : Int) (w : World) : Calls Try.prog 23 #[.nilIface, .int .u64 n] w fun e w' => e = .returned (.int .i64 1) ∧ w' = w := by
  go_enter Try.func23, Try.ntmps23
  go_wp2_with fail
  go_ret
  exact ⟨rfl, rfl⟩
set_option maxHeartbeats 1000000 in
theorem take_nil (a n : Int) (w : World) : Calls Try.prog 14 #[.nilIface, .int .u64 a, .int .u64 n] w fun e w' => e = .returned (.tuple #[.int .u64 0, .int .i64 1]) ∧ w' = w := by
  go_enter Try.func14, Try.ntmps14
  go_wp2_with (go_at_call 23; refine (may_nil n _).mono ?_; rintro e_ w_ ⟨rfl, hw_⟩; subst w_)
  go_ret2
  exact ⟨rfl, rfl⟩
set_option maxHeartbeats 1000000 in
theorem left_nil (a : Int) (w : World) : Calls Try.prog 13 #[.nilIface, .int .u64 a] w fun e w' => e = .returned (.tuple #[.int .u64 0, .int .i64 1]) ∧ w' = w := by
  go_enter Try.func13, Try.ntmps13
  go_wp2_with fail
  go_ret2
  exact ⟨rfl, rfl⟩
set_option maxHeartbeats 1000000 in
theorem given_nil (a n : Int) (w : World) : Calls Try.prog 19 #[.nilIface, .int .u64 a, .int .u64 n] w fun e w' => e = .returned (.tuple #[.slice none 0 0, .int .i64 1]) ∧ w' = w := by
  go_enter Try.func19, Try.ntmps19
  go_wp2_with (go_at_call 23; refine (may_nil n _).mono ?_; rintro e_ w_ ⟨rfl, hw_⟩; subst w_)
  go_ret2
  exact ⟨rfl, rfl⟩
set_option maxHeartbeats 1000000 in
theorem lay_nil (a p q : Int) (w : World) : Calls Try.prog 11 #[.nilIface, .int .u64 a, .int .u64 p, .int .u64 q] w fun e w' => e = .returned (.int .i64 1) ∧ w' = w := by
  go_enter Try.func11, Try.ntmps11
  go_wp2_with fail
  refine wp_scope_straight ?_
  go_wp2_with fail
  simp only [Exit.noGoto]
  go_ret
  exact ⟨rfl, rfl⟩
set_option maxHeartbeats 1000000 in
theorem give_nil (a p n : Int) (w : World) : Calls Try.prog 12 #[.nilIface, .int .u64 a, .int .u64 p, .int .u64 n] w fun e w' => e = .returned (.int .i64 1) ∧ w' = w := by
  go_enter Try.func12, Try.ntmps12
  go_wp2_with (go_at_call 23; refine (may_nil n _).mono ?_; rintro e_ w_ ⟨rfl, hw_⟩; subst w_)
  go_ret
  exact ⟨rfl, rfl⟩
set_option maxRecDepth 100000 in
set_option maxHeartbeats 4000000 in
theorem nothing_any (w : World) : Calls Try.prog 7 #[] w fun e w' => e = .returned (.bool true) ∧ w' = w := by
  go_enter Try.func7, Try.ntmps7
  go_wp2_with (first | (go_at_call 14; refine (take_nil _ _ _).mono ?_; rintro e_ w_ ⟨rfl, hw_⟩; subst w_) | (go_at_call 13; refine (left_nil _ _).mono ?_; rintro e_ w_ ⟨rfl, hw_⟩; subst w_) | (go_at_call 19; refine (given_nil _ _ _).mono ?_; rintro e_ w_ ⟨rfl, hw_⟩; subst w_) | (go_at_call 11; refine (lay_nil _ _ _ _).mono ?_; rintro e_ w_ ⟨rfl, hw_⟩; subst w_) | (go_at_call 12; refine (give_nil _ _ _ _).mono ?_; rintro e_ w_ ⟨rfl, hw_⟩; subst w_) | (go_at_call 10; refine (num_any _ _).mono ?_; rintro e_ w_ ⟨rfl, hw_⟩; subst w_))
  go_ret
  exact ⟨rfl, rfl⟩
end Go.Proofs.Ythelfalmjihkdaa
