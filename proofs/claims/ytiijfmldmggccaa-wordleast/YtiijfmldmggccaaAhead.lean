/- The walks of Signbit and of ahead, of each kind of numbers. No statement of the seat is proved here. -/
import Derived.Test.YtiijfmldmggccaaConv32
namespace Go.Proofs.Ytiijfmldmggccaa
open Go.RowKit Ieee

section
variable (a b : Nat) (W : World)
set_option maxHeartbeats 400000 in
theorem signbit (hb : b < 18446744073709551616) : Calls Try.prog 62 #[.float .f64 b] W fun e w' => e = .returned (.bool (decide (9223372036854775808 ≤ b))) ∧ w' = W := by
  go_enter Try.func62, Try.ntmps62
  go_wp2_with fail
  go_ret
  refine ret_of (congrArg Value.bool ?_)
  unfold wrap64
  by_cases c : 9223372036854775808 ≤ b <;> simp [c] <;> omega
end

theorem i64_lt (x : Int) (h : x.natAbs < 18446744073709551616) : floatOfInt .f64 x < 18446744073709551616 := (nr_parts h).1

set_option maxHeartbeats 400000 in
theorem ahead_i8 (x y : Int) (W : World) (hx : -128 ≤ x ∧ x < 128) : Calls Try.prog 57 #[.int .i8 x, .int .i8 y] W fun e w' => e = .returned (.bool (decide (x < y))) ∧ w' = W := by
  go_enter Try.func57, Try.ntmps57
  by_cases c : x = y
  · subst c
    have hl := i64_lt x (by omega)
    go_wp2_with fail
    refine (signbit (floatOfInt .f64 x) _ hl).mono ?_
    rintro e w' ⟨rfl, rfl⟩
    by_cases s : 9223372036854775808 ≤ floatOfInt .f64 x
    · rw [decide_eq_true s]
      go_wp2_with fail
      refine (signbit (floatOfInt .f64 x) _ hl).mono ?_
      rintro e w' ⟨rfl, rfl⟩
      rw [decide_eq_true s]
      go_wp2_with fail
      go_ret
      exact ret_of (by simp)
    · rw [decide_eq_false s]
      go_wp2_with fail
      go_ret
      exact ret_of (by simp)
  · by_cases d : x < y
    · go_wp2_with fail
      go_ret
      exact ret_of (by simp [d])
    · go_wp2_with fail
      go_ret
      exact ret_of (by simp; omega)

set_option maxHeartbeats 400000 in
theorem ahead_i16 (x y : Int) (W : World) (hx : -32768 ≤ x ∧ x < 32768) : Calls Try.prog 58 #[.int .i16 x, .int .i16 y] W fun e w' => e = .returned (.bool (decide (x < y))) ∧ w' = W := by
  go_enter Try.func58, Try.ntmps58
  by_cases c : x = y
  · subst c
    have hl := i64_lt x (by omega)
    go_wp2_with fail
    refine (signbit (floatOfInt .f64 x) _ hl).mono ?_
    rintro e w' ⟨rfl, rfl⟩
    by_cases s : 9223372036854775808 ≤ floatOfInt .f64 x
    · rw [decide_eq_true s]
      go_wp2_with fail
      refine (signbit (floatOfInt .f64 x) _ hl).mono ?_
      rintro e w' ⟨rfl, rfl⟩
      rw [decide_eq_true s]
      go_wp2_with fail
      go_ret
      exact ret_of (by simp)
    · rw [decide_eq_false s]
      go_wp2_with fail
      go_ret
      exact ret_of (by simp)
  · by_cases d : x < y
    · go_wp2_with fail
      go_ret
      exact ret_of (by simp [d])
    · go_wp2_with fail
      go_ret
      exact ret_of (by simp; omega)

set_option maxHeartbeats 400000 in
theorem ahead_i32 (x y : Int) (W : World) (hx : -2147483648 ≤ x ∧ x < 2147483648) : Calls Try.prog 59 #[.int .i32 x, .int .i32 y] W fun e w' => e = .returned (.bool (decide (x < y))) ∧ w' = W := by
  go_enter Try.func59, Try.ntmps59
  by_cases c : x = y
  · subst c
    have hl := i64_lt x (by omega)
    go_wp2_with fail
    refine (signbit (floatOfInt .f64 x) _ hl).mono ?_
    rintro e w' ⟨rfl, rfl⟩
    by_cases s : 9223372036854775808 ≤ floatOfInt .f64 x
    · rw [decide_eq_true s]
      go_wp2_with fail
      refine (signbit (floatOfInt .f64 x) _ hl).mono ?_
      rintro e w' ⟨rfl, rfl⟩
      rw [decide_eq_true s]
      go_wp2_with fail
      go_ret
      exact ret_of (by simp)
    · rw [decide_eq_false s]
      go_wp2_with fail
      go_ret
      exact ret_of (by simp)
  · by_cases d : x < y
    · go_wp2_with fail
      go_ret
      exact ret_of (by simp [d])
    · go_wp2_with fail
      go_ret
      exact ret_of (by simp; omega)

set_option maxHeartbeats 400000 in
theorem ahead_i64 (x y : Int) (W : World) (hx : -9223372036854775808 ≤ x ∧ x < 9223372036854775808) : Calls Try.prog 60 #[.int .i64 x, .int .i64 y] W fun e w' => e = .returned (.bool (decide (x < y))) ∧ w' = W := by
  go_enter Try.func60, Try.ntmps60
  by_cases c : x = y
  · subst c
    have hl := i64_lt x (by omega)
    go_wp2_with fail
    refine (signbit (floatOfInt .f64 x) _ hl).mono ?_
    rintro e w' ⟨rfl, rfl⟩
    by_cases s : 9223372036854775808 ≤ floatOfInt .f64 x
    · rw [decide_eq_true s]
      go_wp2_with fail
      refine (signbit (floatOfInt .f64 x) _ hl).mono ?_
      rintro e w' ⟨rfl, rfl⟩
      rw [decide_eq_true s]
      go_wp2_with fail
      go_ret
      exact ret_of (by simp)
    · rw [decide_eq_false s]
      go_wp2_with fail
      go_ret
      exact ret_of (by simp)
  · by_cases d : x < y
    · go_wp2_with fail
      go_ret
      exact ret_of (by simp [d])
    · go_wp2_with fail
      go_ret
      exact ret_of (by simp; omega)

section
variable (a b : Nat) (W : World)
theorem ofR_below {a : Nat} (ha : a < 18446744073709551616) (n : nan a = false) : ofR a < 18446744073709551615 := by
  have h := key_bounds ha n
  rw [ofR_key n]; split <;> omega
theorem ord_eq32 {a b : Nat} (ha : a < 4294967296) (hb : b < 4294967296) (na : nan32 a = false) (nb : nan32 b = false) : (FloatKind.f32.format.order a b == some Ordering.eq) = decide (key32 a = key32 b) := by
  rw [show FloatKind.f32.format.order a b = some (compare (key32 a) (key32 b)) from order_key32 ha hb na nb, cmp_int]
  by_cases h : key32 a < key32 b <;> by_cases k : key32 a = key32 b <;> simp [h, k] <;> omega
theorem ord_lt32 {a b : Nat} (ha : a < 4294967296) (hb : b < 4294967296) (na : nan32 a = false) (nb : nan32 b = false) : (FloatKind.f32.format.order a b == some Ordering.lt) = decide (key32 a < key32 b) := by
  rw [show FloatKind.f32.format.order a b = some (compare (key32 a) (key32 b)) from order_key32 ha hb na nb, cmp_int]
  by_cases h : key32 a < key32 b <;> by_cases k : key32 a = key32 b <;> simp [h, k] <;> omega

set_option maxHeartbeats 400000 in
theorem ahead_f64 (ha : a < 18446744073709551616) (hb : b < 18446744073709551616) : Calls Try.prog 55 #[.float .f64 a, .float .f64 b] W fun e w' => e = .returned (.bool (decide (ofR a < ofR b))) ∧ w' = W := by
  go_enter Try.func55, Try.ntmps55
  cases n : nan a
  · have A : (FloatKind.f64.format.order a a == some Ordering.eq) = true := by rw [ord_eq ha ha n n]; simp
    cases m : nan b
    · have E := ord_eq ha hb n m
      have L := ord_lt ha hb n m
      have B : (FloatKind.f64.format.order b b != some Ordering.eq) = false := by unfold bne; rw [ord_eq hb hb m m]; simp
      by_cases c : key a = key b
      · have f1 : (FloatKind.f64.format.order a b == some Ordering.eq) = true := by rw [E]; simp [c]
        clear E L
        go_wp2_with fail
        refine (signbit a _ ha).mono ?_
        rintro e w' ⟨rfl, rfl⟩
        by_cases sa : 9223372036854775808 ≤ a
        · rw [decide_eq_true sa]
          go_wp2_with fail
          refine (signbit b _ hb).mono ?_
          rintro e w' ⟨rfl, rfl⟩
          go_wp2_with fail
          go_ret
          refine ret_of (congrArg Value.bool ?_)
          rw [ofR_key n, ofR_key m]
          by_cases sb : 9223372036854775808 ≤ b <;> simp [sb] <;> omega
        · rw [decide_eq_false sa]
          go_wp2_with fail
          go_ret
          refine ret_of (congrArg Value.bool ?_)
          rw [ofR_key n, ofR_key m]
          by_cases sb : 9223372036854775808 ≤ b <;> simp <;> omega
      · have f1 : (FloatKind.f64.format.order a b == some Ordering.eq) = false := by rw [E]; simp [c]
        by_cases d : key a < key b
        · have f2 : (FloatKind.f64.format.order a b == some Ordering.lt) = true := by rw [L]; simp [d]
          clear E L
          go_wp2_with fail
          go_ret
          refine ret_of (congrArg Value.bool ?_)
          rw [ofR_key n, ofR_key m]
          unfold key at *
          simp; (repeat' split at d) <;> (repeat' split) <;> omega
        · have f2 : (FloatKind.f64.format.order a b == some Ordering.lt) = false := by rw [L]; simp; omega
          clear E L
          go_wp2_with fail
          go_ret
          refine ret_of (congrArg Value.bool ?_)
          rw [ofR_key n, ofR_key m]
          unfold key at *
          simp; (repeat' split at d) <;> (repeat' split at c) <;> (repeat' split) <;> omega
    · have o : FloatKind.f64.format.order a b = none := order_nan_right m
      have B : (FloatKind.f64.format.order b b != some Ordering.eq) = true := by rw [show FloatKind.f64.format.order b b = none from order_nan_left m]; rfl
      have f1 : (FloatKind.f64.format.order a b == some Ordering.eq) = false := by rw [o]; rfl
      have f2 : (FloatKind.f64.format.order a b == some Ordering.lt) = false := by rw [o]; rfl
      clear o
      go_wp2_with fail
      go_ret
      refine ret_of (congrArg Value.bool ?_)
      have e : ofR b = 18446744073709551615 := by unfold ofR; rw [m]; rfl
      have := ofR_below ha n
      rw [e]; simp; omega
  · have o : FloatKind.f64.format.order a b = none := order_nan_left n
    have A : (FloatKind.f64.format.order a a == some Ordering.eq) = false := by rw [show FloatKind.f64.format.order a a = none from order_nan_left n]; rfl
    have f1 : (FloatKind.f64.format.order a b == some Ordering.eq) = false := by rw [o]; rfl
    have f2 : (FloatKind.f64.format.order a b == some Ordering.lt) = false := by rw [o]; rfl
    clear o
    go_wp2_with fail
    go_ret
    refine ret_of (congrArg Value.bool ?_)
    have e : ofR a = 18446744073709551615 := by unfold ofR; rw [n]; rfl
    have h1 : ofR b ≤ 18446744073709551615 := by unfold ofR; (repeat' split) <;> omega
    rw [e]; simp; omega

theorem sign_32 (W : World) {a : Nat} (ha : a < 4294967296) (n : nan32 a = false) : decide (9223372036854775808 ≤ c64 a W) = decide (2147483648 ≤ a) := by
  rw [(c64_num W n).1]
  have := wd_le (nan32_le n)
  unfold Format.word
  by_cases c : a < 2147483648
  · rw [Nat.div_eq_of_lt c]; simp; omega
  · rw [show a / 2147483648 = 1 by omega]; simp [sw]; omega

set_option maxHeartbeats 400000 in
theorem ahead_f32 (ha : a < 4294967296) (hb : b < 4294967296) : Calls Try.prog 56 #[.float .f32 a, .float .f32 b] W fun e w' => e = .returned (.bool (decide (ofR32 a < ofR32 b))) ∧ w' = W := by
  go_enter Try.func56, Try.ntmps56
  cases n : nan32 a
  · have A : (FloatKind.f32.format.order a a == some Ordering.eq) = true := by rw [ord_eq32 ha ha n n]; simp
    cases m : nan32 b
    · have E := ord_eq32 ha hb n m
      have L := ord_lt32 ha hb n m
      have B : (FloatKind.f32.format.order b b != some Ordering.eq) = false := by unfold bne; rw [ord_eq32 hb hb m m]; simp
      by_cases c : key32 a = key32 b
      · have f1 : (FloatKind.f32.format.order a b == some Ordering.eq) = true := by rw [E]; simp [c]
        have s1 := sign_32 W ha n
        have s2 := sign_32 W hb m
        clear E L
        have e1 := (c64_num W n).2
        have e2 := (c64_num W m).2
        go_wp2_with fail
        refine (signbit (c64 a _) _ (c64_lt _ _)).mono ?_
        rintro e w' ⟨rfl, rfl⟩
        rw [s1]
        by_cases sa : 2147483648 ≤ a
        · rw [decide_eq_true sa]
          go_wp2_with fail
          refine (signbit (c64 b _) _ (c64_lt _ _)).mono ?_
          rintro e w' ⟨rfl, rfl⟩
          rw [s2]
          go_wp2_with fail
          go_ret
          refine ret_of (congrArg Value.bool ?_)
          rw [ofR32_key n, ofR32_key m]
          by_cases sb : 2147483648 ≤ b <;> simp [sb] <;> omega
        · rw [decide_eq_false sa]
          go_wp2_with fail
          go_ret
          refine ret_of (congrArg Value.bool ?_)
          rw [ofR32_key n, ofR32_key m]
          by_cases sb : 2147483648 ≤ b <;> simp <;> omega
      · have f1 : (FloatKind.f32.format.order a b == some Ordering.eq) = false := by rw [E]; simp [c]
        by_cases d : key32 a < key32 b
        · have f2 : (FloatKind.f32.format.order a b == some Ordering.lt) = true := by rw [L]; simp [d]
          clear E L
          go_wp2_with fail
          go_ret
          refine ret_of (congrArg Value.bool ?_)
          rw [ofR32_key n, ofR32_key m]
          unfold key32 at *
          simp; (repeat' split at d) <;> (repeat' split) <;> omega
        · have f2 : (FloatKind.f32.format.order a b == some Ordering.lt) = false := by rw [L]; simp; omega
          clear E L
          go_wp2_with fail
          go_ret
          refine ret_of (congrArg Value.bool ?_)
          rw [ofR32_key n, ofR32_key m]
          unfold key32 at *
          simp; (repeat' split at d) <;> (repeat' split at c) <;> (repeat' split) <;> omega
    · have o : FloatKind.f32.format.order a b = none := order_nan_right32 m
      have B : (FloatKind.f32.format.order b b != some Ordering.eq) = true := by rw [show FloatKind.f32.format.order b b = none from order_nan_left32 m]; rfl
      have f1 : (FloatKind.f32.format.order a b == some Ordering.eq) = false := by rw [o]; rfl
      have f2 : (FloatKind.f32.format.order a b == some Ordering.lt) = false := by rw [o]; rfl
      clear o
      go_wp2_with fail
      go_ret
      refine ret_of (congrArg Value.bool ?_)
      have e : ofR32 b = 4294967295 := by unfold ofR32; rw [m]; rfl
      have := ofR32_num ha n
      rw [e]; simp; omega
  · have o : FloatKind.f32.format.order a b = none := order_nan_left32 n
    have A : (FloatKind.f32.format.order a a == some Ordering.eq) = false := by rw [show FloatKind.f32.format.order a a = none from order_nan_left32 n]; rfl
    have f1 : (FloatKind.f32.format.order a b == some Ordering.eq) = false := by rw [o]; rfl
    have f2 : (FloatKind.f32.format.order a b == some Ordering.lt) = false := by rw [o]; rfl
    clear o
    go_wp2_with fail
    go_ret
    refine ret_of (congrArg Value.bool ?_)
    have e : ofR32 a = 4294967295 := by unfold ofR32; rw [n]; rfl
    have h1 : ofR32 b ≤ 4294967295 := by unfold ofR32; (repeat' split) <;> omega
    rw [e]; simp; omega

end
end Go.Proofs.Ytiijfmldmggccaa
