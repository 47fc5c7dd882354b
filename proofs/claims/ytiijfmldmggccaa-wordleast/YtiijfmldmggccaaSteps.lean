/- The walks of Up and Down. No statement of the seat is proved here. -/
import Derived.Test.YtiijfmldmggccaaBack
namespace Go.Proofs.Ytiijfmldmggccaa
open Go.RowKit

/-- The bits of the next real number behind, and of the next one ahead. -/
def upB (b : Nat) : Nat := if nan b = true then b else if ofR b = 18442240474082181120 then 9221120237041090561 else reB (ofR b + 1)
def dnB (b : Nat) : Nat := if nan b = true then 9218868437227405312 else if ofR b = 4503599627370495 then 18442240474082181120 else reB (ofR b - 1)

theorem ofR_num {b : Nat} (hb : b < 18446744073709551616) (n : nan b = false) : 4503599627370495 ≤ ofR b ∧ ofR b ≤ 18442240474082181120 := by
  have h := key_bounds hb n
  rw [ofR_key n]; unfold key at *
  split at h <;> split <;> omega

section
variable (b : Nat) (w : Int) (W : World)

theorem word_real_yes (h0 : 4503599627370495 ≤ w) (h1 : w ≤ 18442240474082181120) : Calls Try.prog 32 #[.int .u64 w] W fun e w' => e = .returned (.tuple #[.float .f64 (reB w), .bool true]) ∧ w' = W := by
  have h := word_real w W (by omega) (by omega)
  rw [show reK w = true from by unfold reK; simp; omega] at h
  exact h
theorem word_real_no (h0 : 0 ≤ w) (h1 : w < 18446744073709551615) (h : w < 4503599627370495 ∨ 18442240474082181120 < w) : Calls Try.prog 32 #[.int .u64 w] W fun e w' => e = .returned (.tuple #[.float .f64 0, .bool false]) ∧ w' = W := by
  have h' := word_real w W (by omega) (by omega)
  have k : reK w = false := by unfold reK; simp; omega
  rw [reB_none k, k] at h'
  exact h'

set_option maxHeartbeats 400000 in
theorem math_inf : Calls Try.prog 54 #[.int .i64 1] W fun e w' => e = .returned (.float .f64 9218868437227405312) ∧ w' = W := by
  go_enter Try.func54, Try.ntmps54
  go_wp2_with fail
  go_ret
  exact ret_of rfl
set_option maxHeartbeats 400000 in
theorem math_neginf : Calls Try.prog 54 #[.int .i64 (-1)] W fun e w' => e = .returned (.float .f64 18442240474082181120) ∧ w' = W := by
  go_enter Try.func54, Try.ntmps54
  go_wp2_with fail
  go_ret
  exact ret_of rfl

set_option maxHeartbeats 400000 in
theorem word_up (hb : b < 18446744073709551616) : Calls Try.prog 28 #[.float .f64 b] W fun e w' => e = .returned (.float .f64 (upB b)) ∧ w' = W := by
  go_enter Try.func28, Try.ntmps28
  cases n : nan b
  · have f1 := ord_self_num hb n
    obtain ⟨o1, o2⟩ := ofR_num hb n
    go_wp2_with fail
    refine (word_ofReal b _ hb).mono ?_
    rintro e w' ⟨rfl, rfl⟩
    by_cases c : ofR b = 18442240474082181120
    · have u : upB b = 9221120237041090561 := by unfold upB; rw [n]; simp [c]
      rw [c]
      go_wp2_with fail
      refine (word_real_no 18442240474082181121 _ (by omega) (by omega) (by omega)).mono ?_
      rintro e w' ⟨rfl, rfl⟩
      go_wp2_with (go_at_call 53; refine (math_nan _).mono ?_; rintro e w' ⟨rfl, rfl⟩)
      go_ret
      exact ret_of (congrArg (Value.float .f64) u.symm)
    · have u : upB b = reB (ofR b + 1) := by unfold upB; rw [n]; simp [c]
      go_wp2_with fail
      refine (word_real_yes (ofR b + 1) _ (by omega) (by omega)).mono ?_
      rintro e w' ⟨rfl, rfl⟩
      go_wp2_with fail
      go_ret
      exact ret_of (congrArg (Value.float .f64) u.symm)
  · have f1 := ord_self_nan n
    go_wp2_with fail
    go_ret
    exact ret_of (by unfold upB; rw [n]; rfl)

set_option maxHeartbeats 400000 in
theorem word_down (hb : b < 18446744073709551616) : Calls Try.prog 30 #[.float .f64 b] W fun e w' => e = .returned (.float .f64 (dnB b)) ∧ w' = W := by
  go_enter Try.func30, Try.ntmps30
  cases n : nan b
  · have f1 := ord_self_num hb n
    obtain ⟨o1, o2⟩ := ofR_num hb n
    go_wp2_with fail
    refine (word_ofReal b _ hb).mono ?_
    rintro e w' ⟨rfl, rfl⟩
    by_cases c : ofR b = 4503599627370495
    · have u : dnB b = 18442240474082181120 := by unfold dnB; rw [n]; simp [c]
      rw [c]
      go_wp2_with fail
      refine (word_real_no 4503599627370494 _ (by omega) (by omega) (by omega)).mono ?_
      rintro e w' ⟨rfl, rfl⟩
      go_wp2_with (go_at_call 54; refine (math_neginf _).mono ?_; rintro e w' ⟨rfl, rfl⟩)
      go_ret
      exact ret_of (congrArg (Value.float .f64) u.symm)
    · have u : dnB b = reB (ofR b - 1) := by unfold dnB; rw [n]; simp [c]
      go_wp2_with fail
      refine (word_real_yes (ofR b - 1) _ (by omega) (by omega)).mono ?_
      rintro e w' ⟨rfl, rfl⟩
      go_wp2_with fail
      go_ret
      exact ret_of (congrArg (Value.float .f64) u.symm)
  · have f1 := ord_self_nan n
    go_wp2_with (go_at_call 54; refine (math_inf _).mono ?_; rintro e w' ⟨rfl, rfl⟩)
    go_ret
    exact ret_of (by unfold dnB; rw [n]; rfl)
end
end Go.Proofs.Ytiijfmldmggccaa
