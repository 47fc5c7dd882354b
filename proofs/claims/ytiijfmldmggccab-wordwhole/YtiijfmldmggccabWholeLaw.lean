/- The walk of the law WordWhole: it returns true. No statement of the seat is proved here. -/
import Derived.Test.YtiijfmldmggccabHalf
import Derived.Test.YtiijfmldmggccabNearW
import Derived.Test.YtiijfmldmggccabBack
namespace Go.Proofs.Ytiijfmldmggccab
open Go.RowKit
@[go_sem] theorem run_quo (t : TypeId) (x y : Nat) (W : World) (h : (floatBits .quo .f64 x y).isSome = true) : (binOp .quo t (.float .f64 x) (.float .f64 y)).run Try.prog W = .ok (.float .f64 ((floatBits .quo .f64 x y).getD 0)) W := by
  obtain ⟨r, hr⟩ := Option.isSome_iff_exists.1 h
  rw [run_float_arith W .quo t .f64 x y r hr, hr]; rfl
@[go_sem] theorem run_add (t : TypeId) (x y : Nat) (W : World) (h : (floatBits .add .f64 x y).isSome = true) : (binOp .add t (.float .f64 x) (.float .f64 y)).run Try.prog W = .ok (.float .f64 ((floatBits .add .f64 x y).getD 0)) W := by
  obtain ⟨r, hr⟩ := Option.isSome_iff_exists.1 h
  rw [run_float_arith W .add t .f64 x y r hr, hr]; rfl

section
variable (n : Int) (W : World)
theorem near_small (h : n.natAbs < 9007199254740992) : Calls Try.prog 18 #[.int .i64 n] W fun e w' => e = .returned (.tuple #[.float .f64 (nr n), .bool true]) ∧ w' = W := by
  have k := word_nearest n W (by omega) (by omega)
  obtain ⟨h1, h2⟩ := nr_exact (x := n) (by omega) (by omega) (by rw [kOf_zero h]; simp [Nat.mod_one])
  rw [h1, h2] at k
  simpa using k
theorem whole_small (h : n.natAbs < 9007199254740992) : Calls Try.prog 19 #[.float .f64 (nr n)] W fun e w' => e = .returned (.tuple #[.int .i64 n, .bool true]) ∧ w' = W := by
  have k := word_whole (nr n) W (nr_parts (by omega)).1
  obtain ⟨h1, h2⟩ := nr_exact (x := n) (by omega) (by omega) (by rw [kOf_zero h]; simp [Nat.mod_one])
  rw [h1, h2] at k
  exact k
end

set_option maxHeartbeats 400000 in
theorem whole_law (x : Int) (W : World) (hx : -9223372036854775808 ≤ x ∧ x < 9223372036854775808) :
    Calls Try.prog 5 #[.int .i64 x] W fun e w' => e = .returned (.bool true) ∧ w' = W := by
  have p1 := (nr_parts (x := x) (by omega)).1
  go_enter Try.func5, Try.ntmps5
  go_wp2_with fail
  have hn : (x.tmod 9007199254740992).natAbs < 9007199254740992 := by
    rcases Int.lt_or_le x 0 with c | c
    · have := Int.tmod_eq_emod_of_nonneg (a := -x) (b := 9007199254740992) (by omega)
      rw [Int.neg_tmod] at this; omega
    · rw [Int.tmod_eq_emod_of_nonneg c]; omega
  generalize x.tmod 9007199254740992 = n at hn ⊢
  refine (near_small n _ hn).mono ?_
  rintro e w' ⟨rfl, rfl⟩
  go_wp2_with fail
  refine (whole_small n _ hn).mono ?_
  rintro e w' ⟨rfl, rfl⟩
  obtain ⟨Q, S, q1, s1, s2, s3⟩ := half hn
  have hq : (floatBits .quo .f64 (nr n) 4611686018427387904).isSome = true := by rw [q1]; rfl
  have hs : (floatBits .add .f64 ((floatBits .quo .f64 (nr n) 4611686018427387904).getD 0) 4602678819172646912).isSome = true := by rw [q1]; show (floatBits .add .f64 Q 4602678819172646912).isSome = true; rw [s1]; rfl
  have hS : (floatBits .add .f64 ((floatBits .quo .f64 (nr n) 4611686018427387904).getD 0) 4602678819172646912).getD 0 = S := by rw [q1]; show (floatBits .add .f64 Q 4602678819172646912).getD 0 = S; rw [s1]; rfl
  clear q1 s1
  by_cases o : n.tmod 2 = 0
  · go_wp2_with fail
    refine (word_whole S _ s2).mono ?_
    rintro e w' ⟨rfl, rfl⟩
    clear hq hs hS s2 s3 hn
    go_wp2_with fail
    refine (word_nearest x _ hx.1 hx.2).mono ?_
    rintro e w' ⟨rfl, rfl⟩
    go_wp2_with fail
    refine (word_whole (nr x) _ p1).mono ?_
    rintro e w' ⟨rfl, rfl⟩
    generalize whK (nr x) = wk
    generalize whN (nr x) = wn
    cases wk
    · go_wp2_with fail
      refine (known_any _).mono ?_
      rintro e w' ⟨rfl, rfl⟩
      go_wp2_with fail
      go_ret
      exact ret_of rfl
    · by_cases c : wn = x
      · subst c
        go_wp2_with fail
        refine (known_any _).mono ?_
        rintro e w' ⟨rfl, rfl⟩
        go_wp2_with fail
        go_ret
        exact ret_of rfl
      · have c' : (wn == x) = false := by simp [c]
        go_wp2_with fail
        refine (known_any _).mono ?_
        rintro e w' ⟨rfl, rfl⟩
        go_wp2_with fail
        go_ret
        refine ret_of (congrArg Value.bool ?_)
        simp [c]
  · have k := s3 (by rcases Int.emod_two_eq n with h | h; exact absurd (Int.tmod_eq_zero_of_dvd (Int.dvd_of_emod_eq_zero h)) o; exact h)
    have f : (FloatKind.f64.format.order (floatOfInt .f64 (whN S)) S != some Ordering.eq) = false := by
      have k2 := k
      unfold whK at k2
      simp only [Bool.and_eq_true] at k2
      unfold whN; rw [if_pos k]; unfold bne; rw [k2.2]; rfl
    go_wp2_with fail
    refine (word_whole S _ s2).mono ?_
    rintro e w' ⟨rfl, rfl⟩
    rw [k]
    go_wp2_with fail
    refine (word_nearest x _ hx.1 hx.2).mono ?_
    rintro e w' ⟨rfl, rfl⟩
    go_wp2_with fail
    refine (word_whole (nr x) _ p1).mono ?_
    rintro e w' ⟨rfl, rfl⟩
    generalize whK (nr x) = wk
    generalize whN (nr x) = wn
    cases wk
    · go_wp2_with fail
      refine (known_any _).mono ?_
      rintro e w' ⟨rfl, rfl⟩
      go_wp2_with fail
      go_ret
      exact ret_of rfl
    · by_cases c : wn = x
      · subst c
        go_wp2_with fail
        refine (known_any _).mono ?_
        rintro e w' ⟨rfl, rfl⟩
        go_wp2_with fail
        go_ret
        exact ret_of rfl
      · have c' : (wn == x) = false := by simp [c]
        go_wp2_with fail
        refine (known_any _).mono ?_
        rintro e w' ⟨rfl, rfl⟩
        go_wp2_with fail
        go_ret
        refine ret_of (congrArg Value.bool ?_)
        simp [c]
end Go.Proofs.Ytiijfmldmggccab
