/- Walks of the comparisons of real numbers, and of the document's answers to them. No statement of the seat is proved here. -/
import Derived.Test.YtiijfmldmggccaaReals
namespace Go.Proofs.Ytiijfmldmggccaa
open Go.RowKit

theorem ord_lt {a b : Nat} (ha : a < 18446744073709551616) (hb : b < 18446744073709551616) (na : nan a = false) (nb : nan b = false) : (FloatKind.f64.format.order a b == some Ordering.lt) = decide (key a < key b) := by
  rw [show FloatKind.f64.format.order a b = some (compare (key a) (key b)) from order_key ha hb na nb, cmp_int]
  by_cases h : key a < key b <;> by_cases k : key a = key b <;> simp [h, k] <;> omega
theorem ord_gt {a b : Nat} (ha : a < 18446744073709551616) (hb : b < 18446744073709551616) (na : nan a = false) (nb : nan b = false) : (FloatKind.f64.format.order a b == some Ordering.gt) = decide (key b < key a) := by
  rw [show FloatKind.f64.format.order a b = some (compare (key a) (key b)) from order_key ha hb na nb, cmp_int]
  by_cases h : key a < key b <;> by_cases k : key a = key b <;> simp [h, k] <;> omega
theorem ord_eq {a b : Nat} (ha : a < 18446744073709551616) (hb : b < 18446744073709551616) (na : nan a = false) (nb : nan b = false) : (FloatKind.f64.format.order a b == some Ordering.eq) = decide (key a = key b) := by
  rw [show FloatKind.f64.format.order a b = some (compare (key a) (key b)) from order_key ha hb na nb, cmp_int]
  by_cases h : key a < key b <;> by_cases k : key a = key b <;> simp [h, k] <;> omega

/-- -1, 0, 1 as two words stand to one another. -/
def cmpI (a b : Int) : Int := if a < b then -1 else if a = b then 0 else 1

theorem ofR_bounds (b : Nat) (hb : b < 18446744073709551616) : 0 ≤ ofR b ∧ ofR b < 18446744073709551616 := by
  unfold ofR; split <;> (try split) <;> omega

theorem ofR_key {a : Nat} (na : nan a = false) : ofR a = if a < 9223372036854775808 then 9223372036854775808 + key a else 9223372036854775807 + key a := by
  unfold ofR key; rw [na]; simp only [Bool.false_eq_true, if_false]
  split <;> omega

theorem key_bounds {a : Nat} (ha : a < 18446744073709551616) (na : nan a = false) : -9218868437227405312 ≤ key a ∧ key a ≤ 9218868437227405312 := by
  simp only [nan, decide_eq_false_iff_not] at na
  unfold key; split <;> omega

section
variable (a b : Nat) (v w : Int) (W : World)

set_option maxHeartbeats 400000 in
theorem cmp_isNaN : Calls Try.prog 61 #[.int .u64 w] W fun e w' => e = .returned (.bool false) ∧ w' = W := by
  go_enter Try.func61, Try.ntmps61
  go_wp2_with fail
  go_ret
  exact ret_of (by simp)

set_option maxHeartbeats 400000 in
theorem cmp_compare : Calls Try.prog 51 #[.int .u64 v, .int .u64 w] W fun e w' => e = .returned (.int .i64 (cmpI v w)) ∧ w' = W := by
  go_enter Try.func51, Try.ntmps51
  rcases Int.lt_trichotomy v w with c | c | c
  · go_wp2_with (go_at_call 61; refine (cmp_isNaN _ _).mono ?_; rintro e w' ⟨rfl, rfl⟩)
    go_ret
    refine ret_of (congrArg (Value.int .i64) ?_)
    unfold cmpI; rw [if_pos c]
  · subst c
    go_wp2_with (go_at_call 61; refine (cmp_isNaN _ _).mono ?_; rintro e w' ⟨rfl, rfl⟩)
    go_ret
    refine ret_of (congrArg (Value.int .i64) ?_)
    unfold cmpI; simp
  · go_wp2_with (go_at_call 61; refine (cmp_isNaN _ _).mono ?_; rintro e w' ⟨rfl, rfl⟩)
    go_ret
    refine ret_of (congrArg (Value.int .i64) ?_)
    unfold cmpI; rw [if_neg (by omega), if_neg (by omega)]

set_option maxHeartbeats 400000 in
theorem word_compare (ha : a < 18446744073709551616) (hb : b < 18446744073709551616) : Calls Try.prog 24 #[.float .f64 a, .float .f64 b] W fun e w' => e = .returned (.int .i64 (cmpI (ofR a) (ofR b))) ∧ w' = W := by
  go_enter Try.func24, Try.ntmps24
  go_wp2_with fail
  refine (word_ofReal a _ ha).mono ?_
  rintro e w' ⟨rfl, rfl⟩
  go_wp2_with fail
  refine (word_ofReal b _ hb).mono ?_
  rintro e w' ⟨rfl, rfl⟩
  go_wp2_with fail
  refine (cmp_compare _ _ _).mono ?_
  rintro e w' ⟨rfl, rfl⟩
  go_wp2_with fail
  go_ret
  exact ret_of rfl

set_option maxHeartbeats 400000 in
theorem word_same (ha : a < 18446744073709551616) (hb : b < 18446744073709551616) : Calls Try.prog 26 #[.float .f64 a, .float .f64 b] W fun e w' => e = .returned (.bool (cmpI (ofR a) (ofR b) == 0)) ∧ w' = W := by
  go_enter Try.func26, Try.ntmps26
  go_wp2_with fail
  refine (word_compare a b _ ha hb).mono ?_
  rintro e w' ⟨rfl, rfl⟩
  go_wp2_with fail
  go_ret
  exact ret_of rfl

end
end Go.Proofs.Ytiijfmldmggccaa
