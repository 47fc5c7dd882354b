
/- Table's small functions (layer 25). No statement of the seat is proved here. -/
import Derived.Test.YtiacennkjjfifabTkP
import Derived.Test.YtiacennkjjfifabTkD
namespace Go.Proofs.Ytiacennkjjfifab
open Go.RowKit

set_option maxHeartbeats 400000 in
theorem hash_any (k : Int) (w : World) : Calls Try.prog 47 #[.int .u64 k] w fun e w' => e = .returned (.int .u64 (hashK k)) ∧ w' = w := by
  go_enter Try.func47, Try.ntmps47
  go_wp2_with fail
  go_ret
  exact ⟨rfl, rfl⟩
theorem dg_shift (h : Int) (_h0 : 0 ≤ h) (d : Nat) (hd : d < 16) : IntKind.u64.wrap (h * 2 ^ (4 * d)) / 1152921504606846976 = h / (2 : Int) ^ (60 - 4 * d) % 16 := by
  rw [IntKind.wrap_u64]
  obtain rfl | rfl | rfl | rfl | rfl | rfl | rfl | rfl | rfl | rfl | rfl | rfl | rfl | rfl | rfl | rfl : d = 0 ∨ d = 1 ∨ d = 2 ∨ d = 3 ∨ d = 4 ∨ d = 5 ∨ d = 6 ∨ d = 7 ∨ d = 8 ∨ d = 9 ∨ d = 10 ∨ d = 11 ∨ d = 12 ∨ d = 13 ∨ d = 14 ∨ d = 15 := by omega
  all_goals (simp only [Nat.reduceMul, Nat.reduceSub, Int.reducePow]; omega)
theorem hashK_isW (k : Int) : isW (hashK k) := uw_isW _
theorem dgK_lt (k : Int) (d : Nat) : 0 ≤ dgK k d ∧ dgK k d < 16 := by
  unfold dgK
  exact ⟨Int.emod_nonneg _ (by decide), Int.emod_lt_of_pos _ (by decide)⟩
theorem dgK_isW (k : Int) (d : Nat) : isW (dgK k d) := by
  have := dgK_lt k d
  exact ⟨by omega, by omega⟩
set_option maxHeartbeats 400000 in
theorem digit_any (k : Int) (d : Nat) (hd : d < 16) (w : World) : Calls Try.prog 40 #[.int .u64 k, .int .i64 d] w fun e w' => e = .returned (.int .u64 (dgK k d)) ∧ w' = w := by
  go_enter Try.func40, Try.ntmps40
  go_wp2_with fail
  refine (hash_any k _).mono ?_
  rintro e_ w_ ⟨rfl, hw_⟩
  subst w_
  have hw4 := dg_shift (hashK k) (hashK_isW k).1 d hd
  go_wp2_with fail
  go_ret
  exact ⟨rfl, rfl⟩
set_option maxHeartbeats 400000 in
theorem leafAt_any (a : Int) (w : World) : Calls Try.prog 43 #[.int .u64 a] w fun e w' => e = .returned (.int .u64 (leafW a)) ∧ w' = w := by
  go_enter Try.func43, Try.ntmps43
  go_wp2_with fail
  go_ret
  exact ⟨rfl, rfl⟩
set_option maxHeartbeats 400000 in
theorem nodeAt_any (a : Int) (w : World) : Calls Try.prog 44 #[.int .u64 a] w fun e w' => e = .returned (.int .u64 (nodeW a)) ∧ w' = w := by
  go_enter Try.func44, Try.ntmps44
  go_wp2_with fail
  go_ret
  exact ⟨rfl, rfl⟩
set_option maxHeartbeats 1000000 in
theorem within_any (x : Int) (hx : isW x) (w : World) : Calls Try.prog 36 #[.int .u64 x] w fun e w' => e = .returned (.tuple #[.int .i64 (knd x), .int .u64 (whr x)]) ∧ w' = w := by
  unfold knd whr
  by_cases h0 : x = 0
  · subst h0
    go_enter Try.func36, Try.ntmps36
    go_wp2_with fail
    go_ret2
    exact ⟨rfl, rfl⟩
  · have hb0 : (x == 0) = false := by simpa using h0
    have hx0 := hx.1
    have ht : x.tmod 2 = x % 2 := by rw [Int.tmod_eq_emod_of_nonneg hx0]
    rw [if_neg h0, if_neg h0]
    have hw1 : IntKind.u64.wrap (x - 1) = x - 1 := uw_id ⟨by omega, by have := hx.2; omega⟩
    by_cases h2 : x % 2 = 0
    · have hb2 : (x.tmod 2 == 0) = true := by rw [ht]; simpa using h2
      have hb3 : (x % 2 == 0) = true := by simpa using h2
      rw [if_pos h2, if_pos h2]
      clear h0 h2 ht hx0
      go_enter Try.func36, Try.ntmps36
      go_wp2_with fail
      go_ret2
      exact ⟨rfl, rfl⟩
    · have hb2 : (x.tmod 2 == 0) = false := by rw [ht]; simpa using h2
      have hb3 : (x % 2 == 0) = false := by simpa using h2
      rw [if_neg h2, if_neg h2]
      clear h0 h2 ht hw1 hx0
      go_enter Try.func36, Try.ntmps36
      go_wp2_with fail
      go_ret2
      exact ⟨rfl, rfl⟩
end Go.Proofs.Ytiacennkjjfifab
