/- There and back between real numbers and words. No statement of the seat is proved here. -/
import Derived.Test.YtiijfmldmggccaaKnown
namespace Go.Proofs.Ytiijfmldmggccaa
open Go.RowKit

theorem wf_i64 {a : Int} (h : (Lit.int .i64 a).wf = true) : -9223372036854775808 ≤ a ∧ a < 9223372036854775808 := by
  simp [Lit.wf, IntKind.min, IntKind.max, IntKind.signed, IntKind.bits] at h; omega
theorem wf_u64 {a : Int} (h : (Lit.int .u64 a).wf = true) : 0 ≤ a ∧ a < 18446744073709551616 := by
  simp [Lit.wf, IntKind.min, IntKind.max, IntKind.signed, IntKind.bits] at h; omega
theorem wrap32_bounds (n : Int) : -2147483648 ≤ wrap32 n ∧ wrap32 n < 2147483648 := by unfold wrap32; omega

theorem reB_lt (w : Int) : reB w < 18446744073709551616 := by
  unfold reB; (repeat' split) <;> omega
theorem reK_ofR {b : Nat} (hb : b < 18446744073709551616) : reK (ofR b) = true := by
  unfold reK
  cases n : nan b
  · have h := key_bounds hb n
    rw [ofR_key n]
    unfold key at *
    split at h <;> simp <;> omega
  · unfold ofR; rw [n]; simp
theorem reB_ofR {b : Nat} (hb : b < 18446744073709551616) (n : nan b = false) : reB (ofR b) = b := by
  have h := key_bounds hb n
  rw [ofR_key n]
  unfold key reB at *
  (repeat' split at h) <;> (repeat' split) <;> omega
theorem reB_ofR_nan {b : Nat} (n : nan b = true) : nan (reB (ofR b)) = true := by
  unfold ofR; rw [n, if_pos rfl]; decide
theorem reB_nan {w : Int} (h : reK w = true) (c : w ≠ 18446744073709551615) : nan (reB w) = false := by
  simp only [reK, decide_eq_true_eq] at h
  unfold reB nan
  simp only [decide_eq_false_iff_not]
  (repeat' split) <;> omega
theorem ofR_reB {w : Int} (h : reK w = true) : ofR (reB w) = w := by
  by_cases c : w = 18446744073709551615
  · subst c; decide
  · have n := reB_nan h c
    rw [ofR_key n]
    simp only [reK, decide_eq_true_eq] at h
    unfold key reB at *
    (repeat' split) <;> omega
theorem reB_none {w : Int} (h : reK w = false) : reB w = 0 := by
  simp only [reK, decide_eq_false_iff_not] at h
  unfold reB
  rw [if_neg (by omega), if_pos (by omega)]

section
variable (a b : Nat) (x w : Int) (W : World)

theorem word_ofPair_back (h0 : 0 ≤ w) (h1 : w < 18446744073709551616) : Calls Try.prog 14 #[.int .i32 (hiP w), .int .i32 (loP w)] W fun e w' => e = .returned (.int .u64 w) ∧ w' = W := by
  have h := word_ofPair (hiP w) (loP w) W (by unfold hiP; omega) (by unfold loP; omega)
  rw [show ofP (hiP w) (loP w) = w from by unfold ofP hiP loP; omega] at h
  exact h
theorem word_pair_back (hx : -2147483648 ≤ x ∧ x < 2147483648) (hw : -2147483648 ≤ w ∧ w < 2147483648) : Calls Try.prog 9 #[.int .u64 (ofP x w)] W fun e w' => e = .returned (.tuple #[.int .i32 x, .int .i32 w]) ∧ w' = W := by
  have h := word_pair (ofP x w) W (by unfold ofP; omega) (by unfold ofP; omega)
  rw [show hiP (ofP x w) = x from by unfold ofP hiP; omega, show loP (ofP x w) = w from by unfold ofP loP; omega] at h
  exact h
theorem word_int_back (hx : -9223372036854775808 ≤ x ∧ x < 9223372036854775808) : Calls Try.prog 12 #[.int .u64 (ofI x)] W fun e w' => e = .returned (.int .i64 x) ∧ w' = W := by
  have h := word_int (ofI x) W (by unfold ofI; omega) (by unfold ofI; omega)
  rw [show toI (ofI x) = x from by unfold toI ofI; omega] at h
  exact h
theorem word_ofInt_back (hw : 0 ≤ w ∧ w < 18446744073709551616) : Calls Try.prog 10 #[.int .i64 (toI w)] W fun e w' => e = .returned (.int .u64 w) ∧ w' = W := by
  have h := word_ofInt (toI w) W (by unfold toI; omega) (by unfold toI; omega)
  rw [show ofI (toI w) = w from by unfold toI ofI; omega] at h
  exact h
theorem word_real_of (ha : a < 18446744073709551616) : Calls Try.prog 32 #[.int .u64 (ofR a)] W fun e w' => e = .returned (.tuple #[.float .f64 (reB (ofR a)), .bool true]) ∧ w' = W := by
  have h := word_real (ofR a) W (ofR_bounds a ha).1 (ofR_bounds a ha).2
  rw [reK_ofR ha] at h
  exact h

set_option maxHeartbeats 400000 in
theorem law_bits (ha : a < 18446744073709551616) (h : (nan a = true ∧ nan b = true) ∨ a = b) : Calls Try.prog 47 #[.float .f64 a, .float .f64 b] W fun e w' => e = .returned (.bool true) ∧ w' = W := by
  go_enter Try.func47, Try.ntmps47
  by_cases n : nan a = true ∧ nan b = true
  · have h1 := ord_self_nan n.1
    have h2 := ord_self_nan n.2
    go_wp2_with fail
    go_ret
    exact ret_of rfl
  · obtain rfl := h.resolve_left n
    have h1 := ord_self_num ha (by cases k : nan a; rfl; exact absurd ⟨k, k⟩ n)
    go_wp2_with fail
    go_ret
    exact ret_of (by simp)
end
end Go.Proofs.Ytiijfmldmggccaa
