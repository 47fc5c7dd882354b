/- The walk of the document's Nearest. No statement of the seat is proved here. -/
import Derived.Test.YtiijfmldmggccaaMul
namespace Go.Proofs.Ytiijfmldmggccaa
open Go.RowKit Ieee
@[go_sem] theorem run_mul (t : TypeId) (x y : Nat) (W : World) (h : (floatBits .mul .f64 x y).isSome = true) : (binOp .mul t (.float .f64 x) (.float .f64 y)).run Try.prog W = .ok (.float .f64 ((floatBits .mul .f64 x y).getD 0)) W := by
  obtain ⟨r, hr⟩ := Option.isSome_iff_exists.1 h
  rw [run_float_arith W .mul t .f64 x y r hr, hr]; rfl
@[go_sem] theorem unary_neg_float (k : FloatKind) (b : Nat) : Op.unary .neg (.float k b) = pure (.float k (Op.negFloat k b)) := rfl

def pw (j : Nat) : Int := ((2 ^ j : Nat) : Int)
theorem pw_pos (j : Nat) : 0 < pw j := by have := Nat.two_pow_pos j; unfold pw; omega
theorem pw_le {j : Nat} (h : j ≤ 11) : pw j ≤ 2048 := by have := Nat.pow_le_pow_right (n := 2) (by decide) h; unfold pw; omega
theorem pw_succ (j : Nat) : pw (j + 1) = pw j * 2 := by have := Nat.pow_succ 2 j; unfold pw; omega
theorem pw_more {m j : Nat} (h : j < kOf m) : (9007199254740992 : Int) ≤ (m : Int) / pw j := by
  have := kOf_more h; unfold pw; rw [← Int.natCast_ediv]; omega
theorem pw_div (m : Nat) : (m : Int) / pw (kOf m) < 9007199254740992 := by
  have := kOf_div (m := m); unfold pw; rw [← Int.natCast_ediv]; omega

structure Halves (M : Int) (m : Nat) (P q R lo : Int) : Prop where
  hP : P = pw (kOf m)
  p0 : 0 < P
  p1 : P ≤ 2048
  e0 : M / P = q
  r0 : 0 ≤ R
  r1 : R < P
  q0 : 0 ≤ q
  q1 : q < 9007199254740992
  e1 : q * P = lo
  e2 : M - lo = R
  l0 : 0 ≤ lo
  l1 : lo ≤ M
  e3 : lo / P = q
  e4 : (lo + P) / P = q + 1
  z : R = 0 ↔ m % 2 ^ kOf m = 0
  up : (P < R * 2 ∨ (R * 2 = P ∧ q % 2 = 1)) → ((kept m : Nat) : Int) = q + 1
  dn : ¬ (P < R * 2 ∨ (R * 2 = P ∧ q % 2 = 1)) → ((kept m : Nat) : Int) = q

theorem halves (m : Nat) (h : m < 18446744073709551616) : ∃ q R lo, Halves (m : Int) m (pw (kOf m)) q R lo := by
  refine ⟨(m : Int) / pw (kOf m), (m : Int) % pw (kOf m), (m : Int) / pw (kOf m) * pw (kOf m), ?_⟩
  have hp := pw_pos (kOf m)
  have hz : ((m : Int) % pw (kOf m)) = ((m % 2 ^ kOf m : Nat) : Int) := by unfold pw; exact (Int.natCast_emod ..).symm
  have hq : ((m : Int) / pw (kOf m)) = ((m / 2 ^ kOf m : Nat) : Int) := by unfold pw; exact (Int.natCast_ediv ..).symm
  have hpe : pw (kOf m) = ((2 ^ kOf m : Nat) : Int) := rfl
  have hd : (m : Int) / pw (kOf m) * pw (kOf m) + (m : Int) % pw (kOf m) = (m : Int) := by rw [Int.mul_comm]; exact Int.mul_ediv_add_emod ..
  have r0 := Int.emod_nonneg (m : Int) (show pw (kOf m) ≠ 0 by omega)
  have q0 : 0 ≤ (m : Int) / pw (kOf m) := by rw [hq]; exact Int.natCast_nonneg _
  have l0 : 0 ≤ (m : Int) / pw (kOf m) * pw (kOf m) := Int.mul_nonneg q0 (by omega)
  refine ⟨rfl, hp, pw_le (kOf_le h), rfl, r0, Int.emod_lt_of_pos _ hp, q0, pw_div m, rfl, by omega, l0, by omega, Int.mul_ediv_cancel _ (by omega), ?_, ?_, ?_, ?_⟩
  · rw [Int.add_ediv_of_dvd_right ⟨1, by omega⟩, Int.mul_ediv_cancel _ (by omega), Int.ediv_self (by omega)]
  · rw [hz]; omega
  · rw [hz, hq, hpe]
    intro hc
    have : (2 ^ kOf m < 2 * (m % 2 ^ kOf m) || (2 ^ kOf m == 2 * (m % 2 ^ kOf m) && m / 2 ^ kOf m % 2 == 1)) = true := by
      simp; omega
    unfold kept; rw [this]; simp
  · rw [hz, hq, hpe]
    intro hc
    have : (2 ^ kOf m < 2 * (m % 2 ^ kOf m) || (2 ^ kOf m == 2 * (m % 2 ^ kOf m) && m / 2 ^ kOf m % 2 == 1)) = false := by
      simp; omega
    unfold kept; rw [this]; simp

theorem mul_halves {M : Int} {m : Nat} {P q R lo U : Int} (h : m < 18446744073709551616) (H : Halves M m P q R lo) (hU : ((kept m : Nat) : Int) = U) : floatBits .mul .f64 (floatOfInt .f64 U) (floatOfInt .f64 P) = some (rg m) := by
  rw [H.hP, ← hU]; exact mul_kept h

set_option maxHeartbeats 400000 in
theorem ref_nearest_pos (M : Int) (m : Nat) (HM : Hid (M = (m : Int))) (W : World) (h1 : m < 9223372036854775808) : Calls Try.prog 35 #[.int .i64 (M)] W fun e w' => e = .returned (.tuple #[.float .f64 (double.word false (rg m)), .bool (decide (m % 2 ^ kOf m = 0))]) ∧ w' = W := by
  have hM := HM.out
  have hM0 : 0 ≤ M := by omega
  have hM1 : M ≤ 9223372036854775808 := by omega
  have hk := kOf_le (m := m) (by omega)
  go_enter Try.func35, Try.ntmps35
  have c : ¬ M < 0 := by omega
  have hM2 : M < 9223372036854775808 := by omega
  clear hM
  go_wp2_with fail
  go_loop [6] (fun u => ∃ j : Nat, j ≤ kOf m ∧ u = .int .u64 (pw j)) (fun u => (4096 - intOf u).toNat)
  case atStart => exact ⟨0, by omega, rfl⟩
  case round =>
    obtain ⟨j, hj, rfl⟩ := hrel
    have hp0 := pw_pos j
    have hp1 := pw_le (j := j) (by omega)
    by_cases hlt : j < kOf m
    · have hq := pw_more hlt
      rw [← HM.out] at hq
      have hp2 : Hid (pw (j + 1) = pw j * 2) := pw_succ j
      generalize pw j = p at hp0 hp1 hp2 hq ⊢
      go_wp2
      go_round
      case rel => exact ⟨j + 1, by omega, by rw [hp2.out]⟩
      case measure => simp [intOf]; omega
    · have hjk : j = kOf m := by omega
      clear hp0 hp1
      obtain ⟨q, R, lo, H⟩ := halves m (by omega)
      rw [← HM.out, ← hjk] at H
      generalize pw j = P at H ⊢
      have HH : Hid (Halves M m P q R lo) := H
      obtain ⟨hP, p0, p1, e0, r0, r1, q0, q1, e1, e2, l0, l1, e3, e4, hz, up, dn⟩ := H
      replace hz : Hid (R = 0 ↔ m % 2 ^ kOf m = 0) := hz
      clear hP
      by_cases c1 : P < R * 2
      · have hU := up (Or.inl c1)
        have hm := mul_halves (by omega) HH.out hU
        have hs : (floatBits .mul .f64 (floatOfInt .f64 (q + 1)) (floatOfInt .f64 P)).isSome = true := by rw [hm]; rfl
        replace hm : Hid (_ = _) := hm
        clear up dn hU
        go_wp2
        go_ret2
        exact ret2_of (congrArg (Value.float .f64) (by rw [hm.out]; rfl)) (congrArg Value.bool (by rw [Bool.eq_iff_iff]; simp; exact hz.out))
      · by_cases c2 : R * 2 = P
        · by_cases c3 : q % 2 = 1
          · have hU := up (Or.inr ⟨c2, c3⟩)
            have hm := mul_halves (by omega) HH.out hU
            have hs : (floatBits .mul .f64 (floatOfInt .f64 (q + 1)) (floatOfInt .f64 P)).isSome = true := by rw [hm]; rfl
            replace hm : Hid (_ = _) := hm
            clear up dn hU
            go_wp2
            go_ret2
            exact ret2_of (congrArg (Value.float .f64) (by rw [hm.out]; rfl)) (congrArg Value.bool (by rw [Bool.eq_iff_iff]; simp; exact hz.out))
          · have hU := dn (by omega)
            have hm := mul_halves (by omega) HH.out hU
            have hs : (floatBits .mul .f64 (floatOfInt .f64 (q)) (floatOfInt .f64 P)).isSome = true := by rw [hm]; rfl
            replace hm : Hid (_ = _) := hm
            clear up dn hU
            go_wp2
            go_ret2
            exact ret2_of (congrArg (Value.float .f64) (by rw [hm.out]; rfl)) (congrArg Value.bool (by rw [Bool.eq_iff_iff]; simp; exact hz.out))
        · have hU := dn (by omega)
          have hm := mul_halves (by omega) HH.out hU
          have hs : (floatBits .mul .f64 (floatOfInt .f64 (q)) (floatOfInt .f64 P)).isSome = true := by rw [hm]; rfl
          replace hm : Hid (_ = _) := hm
          clear up dn hU
          go_wp2
          go_ret2
          exact ret2_of (congrArg (Value.float .f64) (by rw [hm.out]; rfl)) (congrArg Value.bool (by rw [Bool.eq_iff_iff]; simp; exact hz.out))

set_option maxHeartbeats 400000 in
theorem ref_nearest_neg (M : Int) (m : Nat) (HM : Hid (M = (m : Int))) (W : World) (h1 : m ≤ 9223372036854775808 ∧ 0 < m) : Calls Try.prog 35 #[.int .i64 (-M)] W fun e w' => e = .returned (.tuple #[.float .f64 (double.word true (rg m)), .bool (decide (m % 2 ^ kOf m = 0))]) ∧ w' = W := by
  have hM := HM.out
  have hM0 : 0 ≤ M := by omega
  have hM1 : M ≤ 9223372036854775808 := by omega
  have hk := kOf_le (m := m) (by omega)
  go_enter Try.func35, Try.ntmps35
  have c : -M < 0 := by omega
  clear hM
  go_wp2_with fail
  rw [show IntKind.u64.wrap (-IntKind.u64.wrap (-M)) = M from by simp only [IntKind.wrap_u64]; omega]
  go_loop [6] (fun u => ∃ j : Nat, j ≤ kOf m ∧ u = .int .u64 (pw j)) (fun u => (4096 - intOf u).toNat)
  case atStart => exact ⟨0, by omega, rfl⟩
  case round =>
    obtain ⟨j, hj, rfl⟩ := hrel
    have hp0 := pw_pos j
    have hp1 := pw_le (j := j) (by omega)
    by_cases hlt : j < kOf m
    · have hq := pw_more hlt
      rw [← HM.out] at hq
      have hp2 : Hid (pw (j + 1) = pw j * 2) := pw_succ j
      generalize pw j = p at hp0 hp1 hp2 hq ⊢
      go_wp2
      go_round
      case rel => exact ⟨j + 1, by omega, by rw [hp2.out]⟩
      case measure => simp [intOf]; omega
    · have hjk : j = kOf m := by omega
      clear hp0 hp1
      obtain ⟨q, R, lo, H⟩ := halves m (by omega)
      rw [← HM.out, ← hjk] at H
      generalize pw j = P at H ⊢
      have HH : Hid (Halves M m P q R lo) := H
      obtain ⟨hP, p0, p1, e0, r0, r1, q0, q1, e1, e2, l0, l1, e3, e4, hz, up, dn⟩ := H
      replace hz : Hid (R = 0 ↔ m % 2 ^ kOf m = 0) := hz
      clear hP
      by_cases c1 : P < R * 2
      · have hU := up (Or.inl c1)
        have hm := mul_halves (by omega) HH.out hU
        have hs : (floatBits .mul .f64 (floatOfInt .f64 (q + 1)) (floatOfInt .f64 P)).isSome = true := by rw [hm]; rfl
        replace hm : Hid (_ = _) := hm
        clear up dn hU
        go_wp2
        go_ret2
        exact ret2_of (congrArg (Value.float .f64) (by rw [hm.out]; exact neg_rg (r := rg m) (by have := (rg_lt (m := m) (by omega)).1; omega))) (congrArg Value.bool (by rw [Bool.eq_iff_iff]; simp; exact hz.out))
      · by_cases c2 : R * 2 = P
        · by_cases c3 : q % 2 = 1
          · have hU := up (Or.inr ⟨c2, c3⟩)
            have hm := mul_halves (by omega) HH.out hU
            have hs : (floatBits .mul .f64 (floatOfInt .f64 (q + 1)) (floatOfInt .f64 P)).isSome = true := by rw [hm]; rfl
            replace hm : Hid (_ = _) := hm
            clear up dn hU
            go_wp2
            go_ret2
            exact ret2_of (congrArg (Value.float .f64) (by rw [hm.out]; exact neg_rg (r := rg m) (by have := (rg_lt (m := m) (by omega)).1; omega))) (congrArg Value.bool (by rw [Bool.eq_iff_iff]; simp; exact hz.out))
          · have hU := dn (by omega)
            have hm := mul_halves (by omega) HH.out hU
            have hs : (floatBits .mul .f64 (floatOfInt .f64 (q)) (floatOfInt .f64 P)).isSome = true := by rw [hm]; rfl
            replace hm : Hid (_ = _) := hm
            clear up dn hU
            go_wp2
            go_ret2
            exact ret2_of (congrArg (Value.float .f64) (by rw [hm.out]; exact neg_rg (r := rg m) (by have := (rg_lt (m := m) (by omega)).1; omega))) (congrArg Value.bool (by rw [Bool.eq_iff_iff]; simp; exact hz.out))
        · have hU := dn (by omega)
          have hm := mul_halves (by omega) HH.out hU
          have hs : (floatBits .mul .f64 (floatOfInt .f64 (q)) (floatOfInt .f64 P)).isSome = true := by rw [hm]; rfl
          replace hm : Hid (_ = _) := hm
          clear up dn hU
          go_wp2
          go_ret2
          exact ret2_of (congrArg (Value.float .f64) (by rw [hm.out]; exact neg_rg (r := rg m) (by have := (rg_lt (m := m) (by omega)).1; omega))) (congrArg Value.bool (by rw [Bool.eq_iff_iff]; simp; exact hz.out))

theorem ref_nearest (x : Int) (W : World) (h0 : -9223372036854775808 ≤ x) (h1 : x < 9223372036854775808) : Calls Try.prog 35 #[.int .i64 x] W fun e w' => e = .returned (.tuple #[.float .f64 (nr x), .bool (decide (x.natAbs % 2 ^ kOf x.natAbs = 0))]) ∧ w' = W := by
  rw [nr_eq (x := x) (by omega)]
  by_cases c : x < 0
  · have h := ref_nearest_neg (-x) x.natAbs (show -x = (x.natAbs : Int) by omega) W (by omega)
    rw [show - -x = x by omega] at h
    rw [decide_eq_true c]; exact h
  · have h := ref_nearest_pos x x.natAbs (show x = (x.natAbs : Int) by omega) W (by omega)
    rw [decide_eq_false c]; exact h
end Go.Proofs.Ytiijfmldmggccaa
