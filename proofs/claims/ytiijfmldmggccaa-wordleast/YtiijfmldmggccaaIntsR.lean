/- Walks of the document's answers on whole numbers: the same as the word's. No statement of the seat is proved here. -/
import Derived.Test.YtiijfmldmggccaaInts
namespace Go.Proofs.Ytiijfmldmggccaa
open Go.RowKit
section
variable (x w a b : Int) (W : World)

set_option maxHeartbeats 400000 in
theorem ref_ofInt (h0 : -9223372036854775808 ≤ x) (h1 : x < 9223372036854775808) : Calls Try.prog 11 #[.int .i64 x] W fun e w' => e = .returned (.int .u64 (ofI x)) ∧ w' = W := by
  go_enter Try.func11, Try.ntmps11
  go_wp2_with fail
  go_ret
  refine ret_of (congrArg (Value.int .u64) ?_)
  simp only [IntKind.wrap_u64]
  unfold ofI; omega

set_option maxHeartbeats 400000 in
theorem ref_int (h0 : 0 ≤ w) (h1 : w < 18446744073709551616) : Calls Try.prog 13 #[.int .u64 w] W fun e w' => e = .returned (.int .i64 (toI w)) ∧ w' = W := by
  go_enter Try.func13, Try.ntmps13
  go_wp2_with fail
  go_ret
  refine ret_of (congrArg (Value.int .i64) ?_)
  simp only [IntKind.wrap_u64]
  unfold toI wrap64; omega

set_option maxHeartbeats 400000 in
theorem ref_ofPair (ha : -2147483648 ≤ a ∧ a < 2147483648) (hb : -2147483648 ≤ b ∧ b < 2147483648) : Calls Try.prog 15 #[.int .i32 a, .int .i32 b] W fun e w' => e = .returned (.int .u64 (ofP a b)) ∧ w' = W := by
  go_enter Try.func15, Try.ntmps15
  go_wp2_with fail
  go_ret
  refine ret_of (congrArg (Value.int .u64) ?_)
  unfold ofP
  first | omega | (simp only [IntKind.wrap_u64]; omega)

set_option maxHeartbeats 400000 in
theorem ref_middle (ha : 0 ≤ a ∧ a < 18446744073709551616) (hb : 0 ≤ b ∧ b < 18446744073709551616) : Calls Try.prog 17 #[.int .u64 a, .int .u64 b] W fun e w' => e = .returned (.int .u64 (mid a b)) ∧ w' = W := by
  go_enter Try.func17, Try.ntmps17
  rcases Int.lt_trichotomy a b with c | c | c
  · go_wp2_with fail
    all_goals
      go_ret
      refine ret_of (congrArg (Value.int .u64) ?_)
      unfold mid
      split <;> first | omega | (simp only [IntKind.wrap_u64]; omega)
  · subst c
    go_wp2_with fail
    all_goals
      go_ret
      refine ret_of (congrArg (Value.int .u64) ?_)
      unfold mid
      split <;> first | omega | (simp only [IntKind.wrap_u64]; omega)
  · go_wp2_with fail
    all_goals
      go_ret
      refine ret_of (congrArg (Value.int .u64) ?_)
      unfold mid
      split <;> first | omega | (simp only [IntKind.wrap_u64]; omega)
end
end Go.Proofs.Ytiijfmldmggccaa
