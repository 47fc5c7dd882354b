/- The walks of the document's Compare, Up and Down. No statement of the seat is proved here. -/
import Derived.Test.YtiijfmldmggccaaSteps
import Derived.Test.YtiijfmldmggccaaCompR
namespace Go.Proofs.Ytiijfmldmggccaa
open Go.RowKit

def upR (b : Nat) : Nat := if nan b = true ∨ ofR b = 18442240474082181120 then 9221120237041090561 else reB (ofR b + 1)
def dnR (b : Nat) : Nat := if nan b = true then 9218868437227405312 else if ofR b = 4503599627370495 then b else reB (ofR b - 1)

theorem upR_like (b : Nat) : (nan (upB b) = true ∧ nan (upR b) = true) ∨ upB b = upR b := by
  unfold upB upR
  cases n : nan b
  · by_cases c : ofR b = 18442240474082181120 <;> simp [c]
  · simp [n]; left; decide
theorem dnR_like {b : Nat} (hb : b < 18446744073709551616) : dnB b = dnR b := by
  unfold dnB dnR
  cases n : nan b
  · by_cases c : ofR b = 4503599627370495
    · rw [if_neg (by simp), if_pos c, if_neg (by simp), if_pos c]
      rw [ofR_key n] at c
      have h := key_bounds hb n
      unfold key at *
      split at c <;> split at h <;> omega
    · simp [c]
  · simp
theorem upB_lt {b : Nat} (hb : b < 18446744073709551616) : upB b < 18446744073709551616 := by
  unfold upB; have := reB_lt (ofR b + 1); (repeat' split) <;> omega
theorem upR_lt (b : Nat) : upR b < 18446744073709551616 := by
  unfold upR; have := reB_lt (ofR b + 1); (repeat' split) <;> omega
theorem dnB_lt (b : Nat) : dnB b < 18446744073709551616 := by
  unfold dnB; have := reB_lt (ofR b - 1); (repeat' split) <;> omega

section
variable (a b : Nat) (w : Int) (W : World)

theorem ref_real_yes (h0 : 4503599627370495 ≤ w) (h1 : w ≤ 18442240474082181120) : Calls Try.prog 33 #[.int .u64 w] W fun e w' => e = .returned (.tuple #[.float .f64 (reB w), .bool true]) ∧ w' = W := by
  have h := ref_real w W (by omega) (by omega)
  rw [show reK w = true from by unfold reK; simp; omega] at h
  exact h

set_option maxHeartbeats 400000 in
theorem ref_up (hb : b < 18446744073709551616) : Calls Try.prog 29 #[.float .f64 b] W fun e w' => e = .returned (.float .f64 (upR b)) ∧ w' = W := by
  go_enter Try.func29, Try.ntmps29
  go_wp2_with fail
  refine (ref_nan b _ hb).mono ?_
  rintro e w' ⟨rfl, rfl⟩
  cases n : nan b
  · obtain ⟨o1, o2⟩ := ofR_num hb n
    have g := ord_gt hb (show 9218868437227405311 < 18446744073709551616 by omega) n (by decide)
    have kb := key_bounds hb n
    rw [show key 9218868437227405311 = 9218868437227405311 from by decide] at g
    by_cases c : ofR b = 18442240474082181120
    · have f : (FloatKind.f64.format.order b 9218868437227405311 == some Ordering.gt) = true := by
        rw [g]; rw [ofR_key n] at c; simp; split at c <;> omega
      clear g
      go_wp2_with (go_at_call 53; refine (math_nan _).mono ?_; rintro e w' ⟨rfl, rfl⟩)
      go_ret
      exact ret_of (congrArg (Value.float .f64) (by unfold upR; rw [if_pos (Or.inr c)]))
    · have f : (FloatKind.f64.format.order b 9218868437227405311 == some Ordering.gt) = false := by
        rw [g]; rw [ofR_key n] at c; simp; unfold key at *; split at c <;> split at kb <;> omega
      clear g
      go_wp2_with fail
      refine (ref_ofReal b _ hb).mono ?_
      rintro e w' ⟨rfl, rfl⟩
      go_wp2_with fail
      refine (ref_real_yes (ofR b + 1) _ (by omega) (by omega)).mono ?_
      rintro e w' ⟨rfl, rfl⟩
      go_wp2_with fail
      go_ret
      exact ret_of (congrArg (Value.float .f64) (by unfold upR; rw [if_neg (by simp [n, c])]))
  · go_wp2_with (go_at_call 53; refine (math_nan _).mono ?_; rintro e w' ⟨rfl, rfl⟩)
    go_ret
    exact ret_of (congrArg (Value.float .f64) (by unfold upR; rw [if_pos (Or.inl n)]))

set_option maxHeartbeats 400000 in
theorem ref_down (hb : b < 18446744073709551616) : Calls Try.prog 31 #[.float .f64 b] W fun e w' => e = .returned (.float .f64 (dnR b)) ∧ w' = W := by
  go_enter Try.func31, Try.ntmps31
  go_wp2_with fail
  refine (ref_nan b _ hb).mono ?_
  rintro e w' ⟨rfl, rfl⟩
  cases n : nan b
  · obtain ⟨o1, o2⟩ := ofR_num hb n
    have g := ord_lt hb (show 18442240474082181119 < 18446744073709551616 by omega) n (by decide)
    have kb := key_bounds hb n
    rw [show key 18442240474082181119 = -9218868437227405311 from by decide] at g
    by_cases c : ofR b = 4503599627370495
    · have f : (FloatKind.f64.format.order b 18442240474082181119 == some Ordering.lt) = true := by
        rw [g]; rw [ofR_key n] at c; simp; unfold key at *; split at c <;> split at kb <;> omega
      clear g
      go_wp2_with fail
      go_ret
      exact ret_of (congrArg (Value.float .f64) (by unfold dnR; rw [if_neg (by simp [n]), if_pos c]))
    · have f : (FloatKind.f64.format.order b 18442240474082181119 == some Ordering.lt) = false := by
        rw [g]; rw [ofR_key n] at c; simp; unfold key at *; split at c <;> split at kb <;> omega
      clear g
      go_wp2_with fail
      refine (ref_ofReal b _ hb).mono ?_
      rintro e w' ⟨rfl, rfl⟩
      go_wp2_with fail
      refine (ref_real_yes (ofR b - 1) _ (by omega) (by omega)).mono ?_
      rintro e w' ⟨rfl, rfl⟩
      go_wp2_with fail
      go_ret
      exact ret_of (congrArg (Value.float .f64) (by unfold dnR; rw [if_neg (by simp [n]), if_neg c]))
  · go_wp2_with (go_at_call 54; refine (math_inf _).mono ?_; rintro e w' ⟨rfl, rfl⟩)
    go_ret
    exact ret_of (congrArg (Value.float .f64) (by unfold dnR; rw [if_pos n]))

theorem cmp_nan_nan (n : nan a = true) (m : nan b = true) : cmpI (ofR a) (ofR b) = 0 := by
  unfold cmpI ofR; rw [n, m]; simp
theorem cmp_nan_num (n : nan a = true) (hb : b < 18446744073709551616) (m : nan b = false) : cmpI (ofR a) (ofR b) = 1 := by
  have h := ofR_num hb m
  have e : ofR a = 18446744073709551615 := by unfold ofR; rw [n]; rfl
  unfold cmpI; rw [e, if_neg (by omega), if_neg (by omega)]
theorem cmp_num_nan (ha : a < 18446744073709551616) (n : nan a = false) (m : nan b = true) : cmpI (ofR a) (ofR b) = -1 := by
  have h := ofR_num ha n
  have e : ofR b = 18446744073709551615 := by unfold ofR; rw [m]; rfl
  unfold cmpI; rw [e, if_pos (by omega)]
theorem cmp_num_lt (n : nan a = false) (m : nan b = false) (h : key a < key b) : cmpI (ofR a) (ofR b) = -1 := by
  unfold cmpI
  rw [if_pos]
  rw [ofR_key n, ofR_key m]; unfold key at *; (repeat' split at h) <;> (repeat' split) <;> omega
theorem cmp_num_gt (n : nan a = false) (m : nan b = false) (h : key b < key a) : cmpI (ofR a) (ofR b) = 1 := by
  unfold cmpI
  rw [if_neg, if_neg] <;> rw [ofR_key n, ofR_key m] <;> unfold key at * <;> (repeat' split at h) <;> (repeat' split) <;> omega

section
set_option maxHeartbeats 400000 in
theorem ref_compare (ha : a < 18446744073709551616) (hb : b < 18446744073709551616) : Calls Try.prog 25 #[.float .f64 a, .float .f64 b] W fun e w' => e = .returned (.int .i64 (cmpI (ofR a) (ofR b))) ∧ w' = W := by
  go_enter Try.func25, Try.ntmps25
  cases n : nan a
  · cases m : nan b
    · have g1 := ord_lt ha hb n m
      have g2 := ord_gt ha hb n m
      rcases Int.lt_trichotomy (key a) (key b) with c | c | c
      · have f1 : (FloatKind.f64.format.order a b == some Ordering.lt) = true := by rw [g1]; simp [c]
        clear g1 g2
        go_wp2_with (go_at_call 49; first | (refine (ref_nan a _ ha).mono ?_; rintro e w' ⟨rfl, rfl⟩; rw [n]) | (refine (ref_nan b _ hb).mono ?_; rintro e w' ⟨rfl, rfl⟩; rw [m]))
        go_ret
        exact ret_of (congrArg (Value.int .i64) (cmp_num_lt a b n m c).symm)
      · have f1 : (FloatKind.f64.format.order a b == some Ordering.lt) = false := by rw [g1]; simp [c]
        have f2 : (FloatKind.f64.format.order a b == some Ordering.gt) = false := by rw [g2]; simp [c]
        clear g1 g2
        by_cases sa : 9223372036854775808 ≤ a
        · by_cases sb : 9223372036854775808 ≤ b
          · go_wp2_with (first | (go_at_call 49; first | (refine (ref_nan a _ ha).mono ?_; rintro e w' ⟨rfl, rfl⟩; rw [n]) | (refine (ref_nan b _ hb).mono ?_; rintro e w' ⟨rfl, rfl⟩; rw [m])) | (go_at_call 52; first | (refine (ref_negative a _).mono ?_; rintro e w' ⟨rfl, rfl⟩; rw [decide_eq_true sa]) | (refine (ref_negative b _).mono ?_; rintro e w' ⟨rfl, rfl⟩; rw [decide_eq_true sb])))
            go_ret
            refine ret_of (congrArg (Value.int .i64) ?_)
            unfold cmpI; rw [ofR_key n, ofR_key m, if_neg (show ¬ a < 9223372036854775808 by omega), if_neg (show ¬ b < 9223372036854775808 by omega), c]; simp
          · go_wp2_with (first | (go_at_call 49; first | (refine (ref_nan a _ ha).mono ?_; rintro e w' ⟨rfl, rfl⟩; rw [n]) | (refine (ref_nan b _ hb).mono ?_; rintro e w' ⟨rfl, rfl⟩; rw [m])) | (go_at_call 52; first | (refine (ref_negative a _).mono ?_; rintro e w' ⟨rfl, rfl⟩; rw [decide_eq_true sa]) | (refine (ref_negative b _).mono ?_; rintro e w' ⟨rfl, rfl⟩; rw [decide_eq_false sb])))
            go_ret
            refine ret_of (congrArg (Value.int .i64) ?_)
            unfold cmpI; rw [ofR_key n, ofR_key m, if_neg (show ¬ a < 9223372036854775808 by omega), if_pos (show b < 9223372036854775808 by omega), c, if_pos (by omega)]
        · by_cases sb : 9223372036854775808 ≤ b
          · go_wp2_with (first | (go_at_call 49; first | (refine (ref_nan a _ ha).mono ?_; rintro e w' ⟨rfl, rfl⟩; rw [n]) | (refine (ref_nan b _ hb).mono ?_; rintro e w' ⟨rfl, rfl⟩; rw [m])) | (go_at_call 52; first | (refine (ref_negative a _).mono ?_; rintro e w' ⟨rfl, rfl⟩; rw [decide_eq_false sa]) | (refine (ref_negative b _).mono ?_; rintro e w' ⟨rfl, rfl⟩; rw [decide_eq_true sb])))
            go_ret
            refine ret_of (congrArg (Value.int .i64) ?_)
            unfold cmpI; rw [ofR_key n, ofR_key m, if_pos (show a < 9223372036854775808 by omega), if_neg (show ¬ b < 9223372036854775808 by omega), c, if_neg (by omega), if_neg (by omega)]
          · go_wp2_with (first | (go_at_call 49; first | (refine (ref_nan a _ ha).mono ?_; rintro e w' ⟨rfl, rfl⟩; rw [n]) | (refine (ref_nan b _ hb).mono ?_; rintro e w' ⟨rfl, rfl⟩; rw [m])) | (go_at_call 52; first | (refine (ref_negative a _).mono ?_; rintro e w' ⟨rfl, rfl⟩; rw [decide_eq_false sa]) | (refine (ref_negative b _).mono ?_; rintro e w' ⟨rfl, rfl⟩; rw [decide_eq_false sb])))
            go_ret
            refine ret_of (congrArg (Value.int .i64) ?_)
            unfold cmpI; rw [ofR_key n, ofR_key m, if_pos (show a < 9223372036854775808 by omega), if_pos (show b < 9223372036854775808 by omega), c]; simp
      · have f1 : (FloatKind.f64.format.order a b == some Ordering.lt) = false := by rw [g1]; simp; omega
        have f2 : (FloatKind.f64.format.order a b == some Ordering.gt) = true := by rw [g2]; simp [c]
        clear g1 g2
        go_wp2_with (go_at_call 49; first | (refine (ref_nan a _ ha).mono ?_; rintro e w' ⟨rfl, rfl⟩; rw [n]) | (refine (ref_nan b _ hb).mono ?_; rintro e w' ⟨rfl, rfl⟩; rw [m]))
        go_ret
        exact ret_of (congrArg (Value.int .i64) (cmp_num_gt a b n m c).symm)
    · go_wp2_with (go_at_call 49; first | (refine (ref_nan a _ ha).mono ?_; rintro e w' ⟨rfl, rfl⟩; rw [n]) | (refine (ref_nan b _ hb).mono ?_; rintro e w' ⟨rfl, rfl⟩; rw [m]))
      go_ret
      exact ret_of (congrArg (Value.int .i64) (cmp_num_nan a b ha n m).symm)
  · cases m : nan b
    · go_wp2_with (go_at_call 49; first | (refine (ref_nan a _ ha).mono ?_; rintro e w' ⟨rfl, rfl⟩; rw [n]) | (refine (ref_nan b _ hb).mono ?_; rintro e w' ⟨rfl, rfl⟩; rw [m]))
      go_ret
      exact ret_of (congrArg (Value.int .i64) (cmp_nan_num a b n hb m).symm)
    · go_wp2_with (go_at_call 49; first | (refine (ref_nan a _ ha).mono ?_; rintro e w' ⟨rfl, rfl⟩; rw [n]) | (refine (ref_nan b _ hb).mono ?_; rintro e w' ⟨rfl, rfl⟩; rw [m]))
      go_ret
      exact ret_of (congrArg (Value.int .i64) (cmp_nan_nan a b n m).symm)
end
end
end Go.Proofs.Ytiijfmldmggccaa
