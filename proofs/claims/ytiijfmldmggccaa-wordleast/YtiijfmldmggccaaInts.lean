/- Walks of the word's functions on whole numbers: what each returns. No statement of the seat is proved here. -/
import Derived.Test.YtiijfmldmggccaaProg
import Derived.Test.YtiijfmldmggccaaBits
import Derived.WalkKit
import Derived.WalkSpells
import Derived.WalkLawsBesides
namespace Go.Proofs.Ytiijfmldmggccaa
open Go.RowKit

theorem ret_of {v v' : Value} {w : World} (h : v = v') : Ending.returned v = .returned v' ∧ w = w := ⟨by rw [h], rfl⟩
theorem ret2_of {v v' u u' : Value} {w : World} (h : v = v') (k : u = u') : Ending.returned (.tuple #[v, u]) = .returned (.tuple #[v', u']) ∧ w = w := ⟨by rw [h, k], rfl⟩
theorem wrap_i64 (n : Int) : IntKind.i64.wrap n = (n + 9223372036854775808) % 18446744073709551616 - 9223372036854775808 := by
  simp only [IntKind.wrap, IntKind.bits, IntKind.signed]; simp; omega
theorem wrap_i32 (n : Int) : IntKind.i32.wrap n = (n + 2147483648) % 4294967296 - 2147483648 := by
  simp only [IntKind.wrap, IntKind.bits, IntKind.signed]; simp; omega
theorem wrap_u32 (n : Int) : IntKind.u32.wrap n = n % 4294967296 := by simp [IntKind.wrap, IntKind.bits, IntKind.signed]

/-- The word of a whole number, and back. -/
def ofI (x : Int) : Int := x + 9223372036854775808
def toI (w : Int) : Int := w - 9223372036854775808
/-- The word of a pair, and its halves. -/
def ofP (a b : Int) : Int := (a + 2147483648) * 4294967296 + (b + 2147483648)
def hiP (w : Int) : Int := w / 4294967296 - 2147483648
def loP (w : Int) : Int := w % 4294967296 - 2147483648
/-- Between two words. -/
def mid (a b : Int) : Int := if a ≤ b then a + (b - a) / 2 else b + (a - b) / 2

section
variable (x w a b : Int) (W : World)

set_option maxHeartbeats 400000 in
theorem word_ofInt (h0 : -9223372036854775808 ≤ x) (h1 : x < 9223372036854775808) : Calls Try.prog 10 #[.int .i64 x] W fun e w' => e = .returned (.int .u64 (ofI x)) ∧ w' = W := by
  go_enter Try.func10, Try.ntmps10
  go_wp2_with fail
  go_ret
  refine ret_of (congrArg (Value.int .u64) ?_)
  rw [IntKind.wrap_u64, xhigh64 _ (by omega) (by omega)]
  unfold ofI; split <;> omega

set_option maxHeartbeats 400000 in
theorem word_int (h0 : 0 ≤ w) (h1 : w < 18446744073709551616) : Calls Try.prog 12 #[.int .u64 w] W fun e w' => e = .returned (.int .i64 (toI w)) ∧ w' = W := by
  go_enter Try.func12, Try.ntmps12
  go_wp2_with fail
  go_ret
  refine ret_of (congrArg (Value.int .i64) ?_)
  rw [xhigh64 _ (by omega) (by omega)]
  unfold toI wrap64; split <;> omega

set_option maxHeartbeats 400000 in
theorem word_pair (h0 : 0 ≤ w) (h1 : w < 18446744073709551616) : Calls Try.prog 9 #[.int .u64 w] W fun e w' => e = .returned (.tuple #[.int .i32 (hiP w), .int .i32 (loP w)]) ∧ w' = W := by
  go_enter Try.func9, Try.ntmps9
  go_wp2_with fail
  go_ret2
  refine ret2_of (congrArg (Value.int .i32) ?_) (congrArg (Value.int .i32) ?_)
  · rw [xhalves64 _ h0 h1]; unfold hiP wrap32; omega
  · rw [xhalves64 _ h0 h1]; unfold loP wrap32; omega

set_option maxHeartbeats 400000 in
theorem word_ofPair (ha : -2147483648 ≤ a ∧ a < 2147483648) (hb : -2147483648 ≤ b ∧ b < 2147483648) : Calls Try.prog 14 #[.int .i32 a, .int .i32 b] W fun e w' => e = .returned (.int .u64 (ofP a b)) ∧ w' = W := by
  go_enter Try.func14, Try.ntmps14
  go_wp2_with fail
  go_ret
  refine ret_of (congrArg (Value.int .u64) ?_)
  rw [or64 _ _ (by omega) (by omega) (by omega) (by omega), xhalves64 _ (by omega) (by omega)]
  unfold ofP; omega

set_option maxHeartbeats 400000 in
theorem word_middle (ha : 0 ≤ a ∧ a < 18446744073709551616) (hb : 0 ≤ b ∧ b < 18446744073709551616) : Calls Try.prog 16 #[.int .u64 a, .int .u64 b] W fun e w' => e = .returned (.int .u64 (mid a b)) ∧ w' = W := by
  go_enter Try.func16, Try.ntmps16
  by_cases c : b < a
  · go_wp2_with fail
    go_ret
    refine ret_of (congrArg (Value.int .u64) ?_)
    unfold mid; rw [if_neg (by omega)]
    omega
  · go_wp2_with fail
    go_ret
    refine ret_of (congrArg (Value.int .u64) ?_)
    unfold mid; rw [if_pos (by omega)]
    omega
end
end Go.Proofs.Ytiijfmldmggccaa
