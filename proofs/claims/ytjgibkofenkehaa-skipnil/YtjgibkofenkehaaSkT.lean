
/- The law SkipNil walked (layer 22). No statement of the seat is proved here. -/
import Derived.Test.YtjgibkofenkehaaSkS
namespace Go.Proofs.Ytjgibkofenkehaa
open Go.RowKit

set_option maxHeartbeats 400000 in
theorem noNew (w : World) : Calls Try.prog 27 #[.nilIface, .int .u64 0] w fun e w' => e = .returned (.tuple #[.int .u64 0, .int .i64 1]) ∧ w' = w := by
  go_enter Try.func27, Try.ntmps27
  go_wp2_with fail
  go_ret2
  exact ⟨rfl, rfl⟩
set_option maxHeartbeats 400000 in
theorem noInsert (w : World) : Calls Try.prog 28 #[.nilIface, .int .u64 0, .int .u64 0, .int .u64 1, .int .i64 1] w fun e w' => e = .returned (.tuple #[.bool false, .int .i64 1]) ∧ w' = w := by
  go_enter Try.func28, Try.ntmps28
  go_wp2_with fail
  go_ret2
  exact ⟨rfl, rfl⟩
set_option maxHeartbeats 400000 in
theorem noRemove (w : World) : Calls Try.prog 26 #[.nilIface, .int .u64 0, .int .u64 0, .int .u64 1] w fun e w' => e = .returned (.tuple #[.bool false, .int .i64 1]) ∧ w' = w := by
  go_enter Try.func26, Try.ntmps26
  go_wp2_with fail
  go_ret2
  exact ⟨rfl, rfl⟩
set_option maxHeartbeats 400000 in
theorem noHas (w : World) : Calls Try.prog 25 #[.nilIface, .int .u64 0, .int .u64 1] w fun e w' => e = .returned (.tuple #[.bool false, .int .i64 1]) ∧ w' = w := by
  go_enter Try.func25, Try.ntmps25
  go_wp2_with fail
  go_ret2
  exact ⟨rfl, rfl⟩
set_option maxHeartbeats 400000 in
theorem noFirst (w : World) : Calls Try.prog 29 #[.nilIface, .int .u64 0] w fun e w' => e = .returned (.tuple #[.int .u64 0, .bool false, .int .i64 1]) ∧ w' = w := by
  go_enter Try.func29, Try.ntmps29
  go_wp2_with fail
  go_ret3
  exact ⟨rfl, rfl⟩
set_option maxHeartbeats 400000 in
theorem noAfter (w : World) : Calls Try.prog 30 #[.nilIface, .int .u64 0, .int .u64 1] w fun e w' => e = .returned (.tuple #[.int .u64 0, .bool false, .int .i64 1]) ∧ w' = w := by
  go_enter Try.func30, Try.ntmps30
  go_wp2_with fail
  go_ret3
  exact ⟨rfl, rfl⟩
set_option maxHeartbeats 400000 in
theorem noKeys (w : World) : Calls Try.prog 18 #[.nilIface, .int .u64 0] w fun e w' => e = .returned (.tuple #[.slice none 0 0, .int .i64 1]) ∧ w' = w := by
  go_enter Try.func18, Try.ntmps18
  go_wp2_with fail
  go_ret2
  exact ⟨rfl, rfl⟩
set_option maxHeartbeats 400000 in
theorem noLen (w : World) : Calls Try.prog 19 #[.nilIface, .int .u64 0] w fun e w' => e = .returned (.tuple #[.int .i64 0, .int .i64 1]) ∧ w' = w := by
  go_enter Try.func19, Try.ntmps19
  go_wp2_with fail
  go_ret2
  exact ⟨rfl, rfl⟩
set_option maxHeartbeats 400000 in
theorem noLay (w : World) : Calls Try.prog 14 #[.nilIface, .int .u64 0] w fun e w' => e = .returned (.int .i64 1) ∧ w' = w := by
  go_enter Try.func14, Try.ntmps14
  go_wp2_with fail
  go_ret
  exact ⟨rfl, rfl⟩
set_option maxRecDepth 100000 in
set_option maxHeartbeats 4000000 in
theorem nil_walk (w : World) : Calls Try.prog 8 #[] w fun e w' => e = .returned (.bool true) ∧ Keeps (fun _ => False) w w' := by
  go_enter Try.func8, Try.ntmps8
  go_wp2_with fail
  refine (noNew _).mono ?_
  rintro e_ w_ ⟨rfl, hw_⟩
  subst w_
  go_wp2_with fail
  refine (noInsert _).mono ?_
  rintro e_ w_ ⟨rfl, hw_⟩
  subst w_
  go_wp2_with fail
  refine (noRemove _).mono ?_
  rintro e_ w_ ⟨rfl, hw_⟩
  subst w_
  go_wp2_with fail
  refine (noHas _).mono ?_
  rintro e_ w_ ⟨rfl, hw_⟩
  subst w_
  go_wp2_with fail
  refine (noFirst _).mono ?_
  rintro e_ w_ ⟨rfl, hw_⟩
  subst w_
  go_wp2_with fail
  refine (noAfter _).mono ?_
  rintro e_ w_ ⟨rfl, hw_⟩
  subst w_
  go_wp2_with fail
  refine (noKeys _).mono ?_
  rintro e_ w_ ⟨rfl, hw_⟩
  subst w_
  go_wp2_with fail
  refine (noLen _).mono ?_
  rintro e_ w_ ⟨rfl, hw_⟩
  subst w_
  go_wp2_with fail
  refine (noLay _).mono ?_
  rintro e_ w_ ⟨rfl, hw_⟩
  subst w_
  go_wp2_with fail
  refine (num_any _ _).mono ?_
  rintro e_ w_ ⟨rfl, hw_⟩
  subst w_
  go_wp2_with fail
  refine (num_any _ _).mono ?_
  rintro e_ w_ ⟨rfl, hw_⟩
  subst w_
  go_wp2_with fail
  refine (num_any _ _).mono ?_
  rintro e_ w_ ⟨rfl, hw_⟩
  subst w_
  go_wp2_with fail
  refine (num_any _ _).mono ?_
  rintro e_ w_ ⟨rfl, hw_⟩
  subst w_
  go_wp2_with fail
  refine (num_any _ _).mono ?_
  rintro e_ w_ ⟨rfl, hw_⟩
  subst w_
  go_wp2_with fail
  refine (num_any _ _).mono ?_
  rintro e_ w_ ⟨rfl, hw_⟩
  subst w_
  go_wp2_with fail
  refine (num_any _ _).mono ?_
  rintro e_ w_ ⟨rfl, hw_⟩
  subst w_
  go_wp2_with fail
  refine (num_any _ _).mono ?_
  rintro e_ w_ ⟨rfl, hw_⟩
  subst w_
  go_wp2_with fail
  refine (num_any _ _).mono ?_
  rintro e_ w_ ⟨rfl, hw_⟩
  subst w_
  go_wp2_with fail
  refine (known_any _).mono ?_
  rintro e_ w1 ⟨rfl, k1⟩
  have K1 := hid k1
  clear k1
  go_wp2_with fail
  go_ret
  exact ⟨rfl, K1.out⟩
end Go.Proofs.Ytjgibkofenkehaa
