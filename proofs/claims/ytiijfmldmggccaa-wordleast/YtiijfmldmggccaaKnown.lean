/- The walk of the law's small row 'known': it returns true. No statement of the seat is proved here. -/
import Derived.Test.YtiijfmldmggccaaComp
namespace Go.Proofs.Ytiijfmldmggccaa
open Go.RowKit

theorem k_one : (FloatKind.f64.format.order 4607182418800017408 4607182418800017408 == some Ordering.eq) = true := by
  rw [ord_eq (by omega) (by omega) (by decide) (by decide)]; simp

section
variable (W : World)

theorem k_real : Calls Try.prog 32 #[.int .u64 13830554455654793216] W fun e w' => e = .returned (.tuple #[.float .f64 4607182418800017408, .bool true]) ∧ w' = W := by
  have h := word_real 13830554455654793216 W (by omega) (by omega)
  rw [show reB 13830554455654793216 = 4607182418800017408 from by decide +kernel, show reK 13830554455654793216 = true from by decide +kernel] at h
  exact h
theorem k_pair : Calls Try.prog 9 #[.int .u64 9223372034707292165] W fun e w' => e = .returned (.tuple #[.int .i32 (-1), .int .i32 5]) ∧ w' = W := by
  have h := word_pair 9223372034707292165 W (by omega) (by omega)
  rw [show hiP 9223372034707292165 = -1 from by decide +kernel, show loP 9223372034707292165 = 5 from by decide +kernel] at h
  exact h
theorem k_ofInt : Calls Try.prog 10 #[.int .i64 (-1)] W fun e w' => e = .returned (.int .u64 9223372036854775807) ∧ w' = W := by
  have h := word_ofInt (-1) W (by omega) (by omega)
  rw [show ofI (-1) = 9223372036854775807 from by decide +kernel] at h
  exact h
theorem k_int : Calls Try.prog 12 #[.int .u64 9223372036854775808] W fun e w' => e = .returned (.int .i64 0) ∧ w' = W := by
  have h := word_int 9223372036854775808 W (by omega) (by omega)
  rw [show toI 9223372036854775808 = 0 from by decide +kernel] at h
  exact h
theorem k_compare : Calls Try.prog 24 #[.float .f64 9223372036854775808, .float .f64 0] W fun e w' => e = .returned (.int .i64 (-1)) ∧ w' = W := by
  have h := word_compare 9223372036854775808 0 W (by omega) (by omega)
  rw [show cmpI (ofR 9223372036854775808) (ofR 0) = -1 from by decide +kernel] at h
  exact h

set_option maxHeartbeats 400000 in
theorem k_copysign : Calls Try.prog 48 #[.float .f64 0, .float .f64 13830554455654793216] W fun e w' => e = .returned (.float .f64 9223372036854775808) ∧ w' = W := by
  go_enter Try.func48, Try.ntmps48
  go_wp2_with fail
  go_ret
  refine ret_of (congrArg (Value.float .f64) ?_)
  decide +kernel

set_option maxHeartbeats 400000 in
theorem known_any : Calls Try.prog 18 #[] W fun e w' => e = .returned (.bool true) ∧ w' = W := by
  have h1 := k_one
  go_enter Try.func18, Try.ntmps18
  go_wp2_with fail
  refine (k_real _).mono ?_
  rintro e w' ⟨rfl, rfl⟩
  go_wp2_with fail
  refine (k_pair _).mono ?_
  rintro e w' ⟨rfl, rfl⟩
  go_wp2_with fail
  refine (k_ofInt _).mono ?_
  rintro e w' ⟨rfl, rfl⟩
  go_wp2_with fail
  refine (k_int _).mono ?_
  rintro e w' ⟨rfl, rfl⟩
  go_wp2_with fail
  refine (k_copysign _).mono ?_
  rintro e w' ⟨rfl, rfl⟩
  go_wp2_with fail
  refine (k_compare _).mono ?_
  rintro e w' ⟨rfl, rfl⟩
  go_wp2_with fail
  go_ret
  exact ret_of rfl
end
end Go.Proofs.Ytiijfmldmggccaa
