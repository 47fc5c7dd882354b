/- Walks of the document's answers on real numbers. No statement of the seat is proved here. -/
import Derived.Test.YtiijfmldmggccaaComp
import Derived.Test.YtiijfmldmggccaaIntsR
namespace Go.Proofs.Ytiijfmldmggccaa
open Go.RowKit
section
variable (a b : Nat) (w : Int) (W : World)

set_option maxHeartbeats 400000 in
theorem ref_nan (hb : b < 18446744073709551616) : Calls Try.prog 49 #[.float .f64 b] W fun e w' => e = .returned (.bool (nan b)) ∧ w' = W := by
  go_enter Try.func49, Try.ntmps49
  go_wp2_with fail
  go_ret
  refine ret_of (congrArg Value.bool ?_)
  cases h : nan b
  · exact ord_self_num hb h
  · exact ord_self_nan h

set_option maxHeartbeats 400000 in
theorem ref_negative : Calls Try.prog 52 #[.float .f64 b] W fun e w' => e = .returned (.bool (decide (9223372036854775808 ≤ b))) ∧ w' = W := by
  go_enter Try.func52, Try.ntmps52
  by_cases c : (9223372036854775808 : Int) ≤ (b : Int)
  · go_wp2_with fail
    go_ret
    refine ret_of (congrArg Value.bool ?_)
    simp; omega
  · go_wp2_with fail
    go_ret
    refine ret_of (congrArg Value.bool ?_)
    simp; omega

attribute [-go_sem] run_bits in
set_option maxHeartbeats 400000 in
theorem ref_ofReal (hb : b < 18446744073709551616) : Calls Try.prog 23 #[.float .f64 b] W fun e w' => e = .returned (.int .u64 (ofR b)) ∧ w' = W := by
  go_enter Try.func23, Try.ntmps23
  go_wp2_with fail
  refine (ref_nan b _ hb).mono ?_
  rintro e w' ⟨rfl, rfl⟩
  by_cases h : nan b = true
  · rw [h]
    go_wp2_with fail
    go_ret
    refine ret_of (congrArg (Value.int .u64) ?_)
    unfold ofR; rw [if_pos h]
  · have h' : nan b = false := by simpa using h
    rw [h']
    by_cases hs : (b : Int) < 9223372036854775808
    · go_wp2_with fail
      rw [run_bits]
      go_wp2_with fail
      go_ret
      refine ret_of (congrArg (Value.int .u64) ?_)
      unfold ofR; rw [if_neg h, if_pos (by omega)]
      all_goals (first | omega | (simp only [IntKind.wrap_u64]; omega))
    · go_wp2_with fail
      rw [run_bits]
      obtain ⟨X, hX⟩ : ∃ X : Int, (b : Int) = X := ⟨_, rfl⟩
      have hX1 : X < 18446744073709551616 := by omega
      rw [hX] at hs ⊢
      go_wp2_with fail
      go_ret
      refine ret_of (congrArg (Value.int .u64) ?_)
      unfold ofR; rw [if_neg h, if_neg (by omega)]
      all_goals (first | omega | (simp only [IntKind.wrap_u64]; omega))

set_option maxHeartbeats 400000 in
theorem ref_real (h0 : 0 ≤ w) (h1 : w < 18446744073709551616) : Calls Try.prog 33 #[.int .u64 w] W fun e w' => e = .returned (.tuple #[.float .f64 (reB w), .bool (reK w)]) ∧ w' = W := by
  go_enter Try.func33, Try.ntmps33
  by_cases c1 : w = 18446744073709551615
  · subst c1
    go_wp2_with (go_at_call 53; refine (math_nan _).mono ?_; rintro e w' ⟨rfl, rfl⟩)
    go_ret2
    exact ret2_of rfl rfl
  · by_cases c2 : w < 4503599627370495
    · go_wp2_with fail
      go_ret2
      refine ret2_of (congrArg (Value.float .f64) ?_) (congrArg Value.bool ?_)
      · unfold reB; rw [if_neg c1, if_pos (Or.inl c2)]
      · unfold reK; simp; omega
    · by_cases c3 : 18442240474082181120 < w
      · go_wp2_with fail
        go_ret2
        refine ret2_of (congrArg (Value.float .f64) ?_) (congrArg Value.bool ?_)
        · unfold reB; rw [if_neg c1, if_pos (Or.inr c3)]
        · unfold reK; simp; omega
      · by_cases c4 : 9223372036854775808 ≤ w
        · go_wp2_with fail
          go_ret2
          refine ret2_of (congrArg (Value.float .f64) ?_) (congrArg Value.bool ?_)
          · unfold reB; rw [if_neg c1, if_neg (by omega), if_neg (by omega)]
            all_goals (first | rfl | (simp only [IntKind.wrap_u64]; omega))
          · unfold reK; simp; omega
        · go_wp2_with fail
          go_ret2
          refine ret2_of (congrArg (Value.float .f64) ?_) (congrArg Value.bool ?_)
          · unfold reB; rw [if_neg c1, if_neg (by omega), if_pos (by omega)]
            all_goals (first | rfl | (simp only [IntKind.wrap_u64]; omega))
          · unfold reK; simp; omega

set_option maxHeartbeats 400000 in
theorem ref_alike (ha : a < 18446744073709551616) (hb : b < 18446744073709551616) (h : (nan a = true ∧ nan b = true) ∨ a = b) : Calls Try.prog 27 #[.float .f64 a, .float .f64 b] W fun e w' => e = .returned (.bool true) ∧ w' = W := by
  go_enter Try.func27, Try.ntmps27
  go_wp2_with fail
  refine (ref_nan a _ ha).mono ?_
  rintro e w' ⟨rfl, rfl⟩
  by_cases n : nan a = true ∧ nan b = true
  · obtain ⟨n1, n2⟩ := n
    rw [n1]
    go_wp2_with fail
    refine (ref_nan b _ hb).mono ?_
    rintro e w' ⟨rfl, rfl⟩
    rw [n2]
    go_wp2_with fail
    go_ret
    exact ret_of rfl
  · obtain rfl := h.resolve_left n
    cases n1 : nan a
    · go_wp2_with fail
      go_ret
      exact ret_of (by simp)
    · go_wp2_with fail
      refine (ref_nan a _ ha).mono ?_
      rintro e w' ⟨rfl, rfl⟩
      exact absurd ⟨n1, n1⟩ n
end
end Go.Proofs.Ytiijfmldmggccaa
