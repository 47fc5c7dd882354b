
/- The law TableNil, walked (layer 25). No statement of the seat is proved here. -/
import Derived.Test.YtiacennkjjfifabTmI
namespace Go.Proofs.Ytiacennkjjfifab
open Go.RowKit

set_option maxHeartbeats 400000 in
theorem noLay (w : World) : Calls Try.prog 14 #[.nilIface, .int .u64 0] w fun e w' => e = .returned (.int .i64 1) ∧ w' = w := by
  go_enter Try.func14, Try.ntmps14
  go_wp2_with fail
  go_ret
  exact ⟨rfl, rfl⟩
set_option maxHeartbeats 400000 in
theorem noNew (w : World) : Calls Try.prog 4 #[.nilIface, .int .u64 0] w fun e w' => e = .returned (.tuple #[.int .u64 0, .int .i64 1]) ∧ w' = w := by
  go_enter Try.func4, Try.ntmps4
  go_wp2_with fail
  go_ret2
  exact ⟨rfl, rfl⟩
set_option maxHeartbeats 400000 in
theorem noGet (w : World) : Calls Try.prog 6 #[.nilIface, .int .u64 0, .int .u64 1] w fun e w' => e = .returned (.tuple #[.int .u64 0, .bool false, .int .i64 1]) ∧ w' = w := by
  go_enter Try.func6, Try.ntmps6
  go_wp2_with fail
  go_ret3
  exact ⟨rfl, rfl⟩
set_option maxHeartbeats 400000 in
theorem noDelete (w : World) : Calls Try.prog 7 #[.nilIface, .int .u64 0, .int .u64 0, .int .u64 1] w fun e w' => e = .returned (.tuple #[.int .u64 0, .bool false, .int .i64 1]) ∧ w' = w := by
  go_enter Try.func7, Try.ntmps7
  go_wp2_with fail
  go_ret3
  exact ⟨rfl, rfl⟩
set_option maxHeartbeats 400000 in
theorem noAll (w : World) : Calls Try.prog 9 #[.nilIface, .int .u64 0] w fun e w' => e = .returned (.tuple #[.slice none 0 0, .int .i64 1]) ∧ w' = w := by
  go_enter Try.func9, Try.ntmps9
  go_wp2_with fail
  go_ret2
  exact ⟨rfl, rfl⟩
set_option maxHeartbeats 400000 in
theorem noDepth (w : World) : Calls Try.prog 12 #[.nilIface, .int .u64 0, .int .u64 1] w fun e w' => e = .returned (.tuple #[.int .i64 0, .int .i64 1]) ∧ w' = w := by
  go_enter Try.func12, Try.ntmps12
  go_wp2_with fail
  go_ret2
  exact ⟨rfl, rfl⟩
set_option maxHeartbeats 400000 in
theorem noChange (f : Value) (w : World) : Calls Try.prog 17 #[.nilIface, .int .u64 0, .int .u64 0, .int .u64 1, f] w fun e w' => e = .returned (.tuple #[.int .u64 0, .bool false, .int .i64 1]) ∧ w' = w := by
  go_enter Try.func17, Try.ntmps17
  go_wp2_with fail
  go_ret3
  exact ⟨rfl, rfl⟩
set_option maxHeartbeats 400000 in
theorem noPut (w : World) : Calls Try.prog 5 #[.nilIface, .int .u64 0, .int .u64 0, .int .u64 1, .int .u64 1] w fun e w' => e = .returned (.tuple #[.int .u64 0, .bool false, .int .i64 1]) ∧ Keeps (fun _ => False) w w' := by
  have HK := hid (keeps_new w (.cells #[.int .u64 1] 22))
  go_enter Try.func5, Try.ntmps5
  go_wp2_with fail
  refine (noChange _ _).mono ?_
  rintro e_ w_ ⟨rfl, hw_⟩
  subst w_
  go_wp2_with fail
  go_ret3
  exact ⟨rfl, HK.out⟩
set_option maxHeartbeats 400000 in
theorem noAdd (w : World) : Calls Try.prog 8 #[.nilIface, .int .u64 0, .int .u64 0, .int .u64 1, .int .u64 1] w fun e w' => e = .returned (.tuple #[.int .u64 0, .int .i64 1]) ∧ Keeps (fun _ => False) w w' := by
  have HK := hid (keeps_new w (.cells #[.int .u64 1] 22))
  go_enter Try.func8, Try.ntmps8
  go_wp2_with fail
  refine (noChange _ _).mono ?_
  rintro e_ w_ ⟨rfl, hw_⟩
  subst w_
  go_wp2_with fail
  go_ret2
  exact ⟨rfl, HK.out⟩
set_option maxHeartbeats 400000 in
theorem noKeys (w : World) : Calls Try.prog 10 #[.nilIface, .int .u64 0] w fun e w' => e = .returned (.tuple #[.slice none 0 0, .int .i64 1]) ∧ w' = w := by
  go_enter Try.func10, Try.ntmps10
  go_wp2_with fail
  refine (noAll _).mono ?_
  rintro e_ w_ ⟨rfl, hw_⟩
  subst w_
  go_wp2_with fail
  go_ret2
  exact ⟨rfl, rfl⟩
set_option maxHeartbeats 400000 in
theorem noLen (w : World) : Calls Try.prog 11 #[.nilIface, .int .u64 0] w fun e w' => e = .returned (.tuple #[.int .i64 0, .int .i64 1]) ∧ w' = w := by
  go_enter Try.func11, Try.ntmps11
  go_wp2_with fail
  refine (noAll _).mono ?_
  rintro e_ w_ ⟨rfl, hw_⟩
  subst w_
  go_wp2_with fail
  go_ret2
  exact ⟨rfl, rfl⟩
set_option maxRecDepth 100000 in
set_option maxHeartbeats 4000000 in
theorem nil_walk (w : World) : Calls Try.prog 3 #[] w fun e w' => e = .returned (.bool true) ∧ Keeps (fun _ => False) w w' := by
  go_enter Try.func3, Try.ntmps3
  go_wp2_with fail
  refine (noNew _).mono ?_
  rintro e_ w_ ⟨rfl, hw_⟩
  subst w_
  go_wp2_with fail
  refine (noPut _).mono ?_
  rintro e_ w1 ⟨rfl, k1⟩
  have K1 := hid k1
  clear k1
  go_wp2_with fail
  refine (noGet _).mono ?_
  rintro e_ w_ ⟨rfl, hw_⟩
  subst w_
  go_wp2_with fail
  refine (noDelete _).mono ?_
  rintro e_ w_ ⟨rfl, hw_⟩
  subst w_
  go_wp2_with fail
  refine (noAdd _).mono ?_
  rintro e_ w2 ⟨rfl, k2⟩
  have K2 := hid k2
  clear k2
  go_wp2_with fail
  refine (noAll _).mono ?_
  rintro e_ w_ ⟨rfl, hw_⟩
  subst w_
  go_wp2_with fail
  refine (noKeys _).mono ?_
  rintro e_ w_ ⟨rfl, hw_⟩
  subst w_
  go_wp2_with fail
  refine (noLen _).mono ?_
  rintro e_ w_ ⟨rfl, hw_⟩
  subst w_
  go_wp2_with fail
  refine (noDepth _).mono ?_
  rintro e_ w_ ⟨rfl, hw_⟩
  subst w_
  go_wp2_with fail
  refine (noLay _).mono ?_
  rintro e_ w_ ⟨rfl, hw_⟩
  subst w_
  go_wp2_with fail
  refine (num_any _ _).mono ?_
  rintro e_ w_ ⟨rfl, hw_⟩
  subst w_
  go_wp2_with fail
  refine (num_any _ _).mono ?_
  rintro e_ w_ ⟨rfl, hw_⟩
  subst w_
  go_wp2_with fail
  refine (num_any _ _).mono ?_
  rintro e_ w_ ⟨rfl, hw_⟩
  subst w_
  go_wp2_with fail
  refine (num_any _ _).mono ?_
  rintro e_ w_ ⟨rfl, hw_⟩
  subst w_
  go_wp2_with fail
  refine (num_any _ _).mono ?_
  rintro e_ w_ ⟨rfl, hw_⟩
  subst w_
  go_wp2_with fail
  refine (num_any _ _).mono ?_
  rintro e_ w_ ⟨rfl, hw_⟩
  subst w_
  go_wp2_with fail
  refine (num_any _ _).mono ?_
  rintro e_ w_ ⟨rfl, hw_⟩
  subst w_
  go_wp2_with fail
  refine (num_any _ _).mono ?_
  rintro e_ w_ ⟨rfl, hw_⟩
  subst w_
  go_wp2_with fail
  refine (num_any _ _).mono ?_
  rintro e_ w_ ⟨rfl, hw_⟩
  subst w_
  go_wp2_with fail
  refine (num_any _ _).mono ?_
  rintro e_ w_ ⟨rfl, hw_⟩
  subst w_
  go_wp2_with fail
  refine (known_any _).mono ?_
  rintro e_ w3 ⟨rfl, k3⟩
  have K3 := hid k3
  clear k3
  go_wp2_with fail
  go_ret
  exact ⟨rfl, (K1.out.trans K2.out).trans K3.out⟩
end Go.Proofs.Ytiacennkjjfifab
