
/- Where a real number's bits hold a number just so, the model's nearest one is it; and what is cut towards nought. -/
import Derived.Test.YthlbeohogfjamaaMath
namespace Go.Proofs.Ythlbeohogfjamaa
open Ieee

theorem log2_iff {n k : Nat} (h : n ≠ 0) : n.log2 = k ↔ 2 ^ k ≤ n ∧ n < 2 ^ (k + 1) := Nat.log2_eq_iff h

theorem log2_mul (m k : Nat) (h : m ≠ 0) : (m * 2 ^ k).log2 = m.log2 + k := by
  have hp := Nat.two_pow_pos k
  obtain ⟨h1, h2⟩ := (log2_iff h).1 rfl
  refine (log2_iff (Nat.mul_ne_zero h (by omega))).2 ⟨?_, ?_⟩
  · rw [Nat.pow_add]; exact Nat.mul_le_mul_right _ h1
  · rw [show m.log2 + k + 1 = m.log2 + 1 + k by omega, Nat.pow_add]; exact Nat.mul_lt_mul_of_pos_right h2 hp

theorem cut_exact (neg : Bool) (m k : Nat) (h : m ≠ 0) : Toward.even.cut neg (m * 2 ^ k) k = m := by
  have hp := Nat.two_pow_pos k
  have hl : min k ((m * 2 ^ k).log2 + 2) = k := by rw [log2_mul m k h]; omega
  simp only [Toward.cut, hl, Nat.shiftLeft_eq, Nat.one_mul, Nat.mul_div_cancel _ hp, Nat.mul_mod_left]
  have : ¬ (2 ^ k < 2 * 0) := by omega
  have h2 : (2 ^ k == 2 * 0) = false := by simp
  simp [h2]

theorem cut_zero (s : Bool) (n d : Nat) : Toward.zero.cut s n d = n / 2 ^ d := by
  simp only [Toward.cut, Nat.shiftLeft_eq, Nat.one_mul, Bool.toNat_false, Nat.add_zero]
  by_cases h : d ≤ n.log2 + 2
  · rw [Nat.min_eq_left h]
  · rw [Nat.min_eq_right (by omega)]
    by_cases z : n = 0
    · subst z; simp
    · have h2 := ((log2_iff z).1 rfl).2
      have h3 : 2 ^ (n.log2 + 1) ≤ 2 ^ (n.log2 + 2) := Nat.pow_le_pow_right (by decide) (by omega)
      have h4 : 2 ^ (n.log2 + 1) ≤ 2 ^ d := Nat.pow_le_pow_right (by decide) (by omega)
      rw [Nat.div_eq_of_lt (by omega), Nat.div_eq_of_lt (by omega)]

theorem mg_pos {r : Nat} (h : 0 < r) : mg r ≠ 0 := by simp only [mg, ex]; omega

theorem mg_norm {r : Nat} (h : 4503599627370496 ≤ r) : (mg r).log2 = 52 := by
  have h1 : mg r = 4503599627370496 + r % 4503599627370496 := mg_high (by omega)
  exact (log2_iff (by omega)).2 ⟨by rw [show (2:Nat) ^ 52 = 4503599627370496 by rfl]; omega, by rw [show (2:Nat) ^ (52 + 1) = 9007199254740992 by rfl]; exact mg_lt r⟩

theorem ex_mg (r : Nat) : ex r * 4503599627370496 + mg r = r := by simp only [mg, ex]; omega

theorem last_eq {r : Nat} (h : 0 < r) : max ((-1074 : Int) + (ex r : Nat) + ((mg r).log2 : Nat) - 52) (-1074) = -1074 + (ex r : Nat) := by
  by_cases c : 4503599627370496 ≤ r
  · rw [mg_norm c]; omega
  · obtain ⟨h1, h2⟩ := mg_low (r := r) (by omega)
    have : (mg r).log2 < 53 := (Nat.log2_lt (by rw [h1]; omega)).2 (by rw [show (2:Nat) ^ 53 = 9007199254740992 by rfl]; exact mg_lt r)
    rw [h2]; omega

theorem nearest_exact (neg : Bool) (mag : Nat) (place : Int) (r a b : Nat) (hr : r < 9218868437227405312) (h0 : 0 < r)
    (h : mag * 2 ^ a = mg r * 2 ^ b) (hp : place + b = -1074 + (ex r : Nat) + a) : double.nearest neg mag place = double.word neg r := by
  have hg := mg_pos h0
  have hm : mag ≠ 0 := by
    intro e; subst e
    have := Nat.mul_ne_zero hg (Nat.ne_of_gt (Nat.two_pow_pos b))
    omega
  have hl : mag.log2 + a = (mg r).log2 + b := by rw [← log2_mul _ _ hm, ← log2_mul _ _ hg, h]
  have hlast : max (place + (mag.log2 : Nat) - (double.fractionBits : Nat)) double.leastPlace = -1074 + (ex r : Nat) := by
    rw [lp, ← last_eq h0]
    have : (double.fractionBits : Int) = 52 := rfl
    rw [this]
    congr 1
    omega
  rw [lp] at hlast
  simp only [Format.nearest, if_neg hm, lp, hlast, bn, ir]
  have hk : mag <<< (place - (-1074 + (ex r : Nat))).toNat = mg r * 2 ^ ((-1074 + (ex r : Nat)) - place).toNat := by
    rw [Nat.shiftLeft_eq]
    by_cases c : b ≤ a
    · have e1 : (place - (-1074 + (ex r : Nat))).toNat = a - b := by omega
      have e2 : ((-1074 + (ex r : Nat)) - place).toNat = 0 := by omega
      rw [e1, e2, Nat.pow_zero, Nat.mul_one]
      have : mag * 2 ^ (a - b) * 2 ^ b = mg r * 2 ^ b := by rw [Nat.mul_assoc, ← Nat.pow_add, Nat.sub_add_cancel c, h]
      exact Nat.eq_of_mul_eq_mul_right (Nat.two_pow_pos b) this
    · have e1 : (place - (-1074 + (ex r : Nat))).toNat = 0 := by omega
      have e2 : ((-1074 + (ex r : Nat)) - place).toNat = b - a := by omega
      rw [e1, e2, Nat.pow_zero, Nat.mul_one]
      have : mag * 2 ^ a = mg r * 2 ^ (b - a) * 2 ^ a := by rw [Nat.mul_assoc, ← Nat.pow_add, Nat.sub_add_cancel (by omega), h]
      exact Nat.eq_of_mul_eq_mul_right (Nat.two_pow_pos a) this
  rw [hk, cut_exact neg _ _ hg]
  have e : ((-1074 + (ex r : Nat)) - (-1074 : Int)).toNat = ex r := by omega
  rw [e, ex_mg, Nat.min_eq_left (by omega)]

/-- A real number of that rung, cut towards nought. -/
def whole (r : Nat) : Nat := mg r * 2 ^ (ex r - 1074) / 2 ^ (1074 - ex r)

theorem toInt_eq {x : Nat} (h : x % 9223372036854775808 < 9218868437227405312) :
    (double.read x).toInt .zero = some (sg (x / 9223372036854775808 % 2 == 1) (whole (x % 9223372036854775808))) := by
  rw [read_num h]
  simp only [Datum.toInt, Datum.integral, cut_zero, signed_eq, Nat.shiftLeft_eq, Nat.pow_zero, Nat.mul_one, whole]
  have e1 : ((-1074 : Int) + (ex (x % 9223372036854775808) : Nat)).toNat = ex (x % 9223372036854775808) - 1074 := by omega
  have e2 : (-((-1074 : Int) + (ex (x % 9223372036854775808) : Nat))).toNat = 1074 - ex (x % 9223372036854775808) := by omega
  rw [e1, e2]

theorem whole_lt {r : Nat} (h : r < 4890909195324358656) : whole r < 9223372036854775808 := by
  unfold whole
  have he : ex r ≤ 1084 := by simp only [ex]; omega
  have h1 := mg_lt r
  have h2 : 2 ^ (ex r - 1074) ≤ 2 ^ 10 := Nat.pow_le_pow_right (by decide) (by omega)
  have h3 : mg r * 2 ^ (ex r - 1074) ≤ mg r * 2 ^ 10 := Nat.mul_le_mul_left _ h2
  have h4 := Nat.div_le_self (mg r * 2 ^ (ex r - 1074)) (2 ^ (1074 - ex r))
  omega

theorem whole_bound : whole 4890909195324358656 = 9223372036854775808 := by decide

/-- The rung holds that whole number just so. -/
def Just (r m : Nat) : Prop := m * 2 ^ (1074 - ex r) = mg r * 2 ^ (ex r - 1074)

theorem whole_just {r m : Nat} (h : Just r m) : whole r = m := by
  unfold whole; rw [← show _ = _ from h, Nat.mul_div_cancel _ (Nat.two_pow_pos _)]

theorem nearest_just (neg : Bool) {r m : Nat} (hr : r < 9218868437227405312) (h0 : 0 < r) (h : Just r m) :
    double.nearest neg m 0 = double.word neg r :=
  nearest_exact neg m 0 r _ _ hr h0 h (by omega)

/-- The rung of a whole number of at most 53 binary digits. -/
def rungOf (m : Nat) : Nat := (m.log2 + 1022) * 4503599627370496 + m * 2 ^ (52 - m.log2)

theorem rung_parts {m : Nat} (h0 : m ≠ 0) (h : m < 9007199254740992) :
    ex (rungOf m) = m.log2 + 1022 ∧ mg (rungOf m) = m * 2 ^ (52 - m.log2) ∧ m.log2 ≤ 52 := by
  have hl : m.log2 < 53 := (Nat.log2_lt h0).2 (by rw [show (2:Nat) ^ 53 = 9007199254740992 by rfl]; exact h)
  obtain ⟨a1, a2⟩ := (log2_iff h0).1 (rfl : m.log2 = m.log2)
  have b1 : 2 ^ m.log2 * 2 ^ (52 - m.log2) ≤ m * 2 ^ (52 - m.log2) := Nat.mul_le_mul_right _ a1
  have b2 : m * 2 ^ (52 - m.log2) < 2 ^ (m.log2 + 1) * 2 ^ (52 - m.log2) := Nat.mul_lt_mul_of_pos_right a2 (Nat.two_pow_pos _)
  rw [← Nat.pow_add, show m.log2 + (52 - m.log2) = 52 by omega, show (2:Nat) ^ 52 = 4503599627370496 by rfl] at b1
  rw [← Nat.pow_add, show m.log2 + 1 + (52 - m.log2) = 53 by omega, show (2:Nat) ^ 53 = 9007199254740992 by rfl] at b2
  have he : ex (rungOf m) = m.log2 + 1022 := by
    unfold rungOf ex
    generalize m * 2 ^ (52 - m.log2) = k at *
    omega
  refine ⟨he, ?_, by omega⟩
  unfold mg; rw [he]; unfold rungOf; omega

theorem rung_just {m : Nat} (h0 : m ≠ 0) (h : m < 9007199254740992) : Just (rungOf m) m ∧ rungOf m < 9218868437227405312 ∧ 0 < rungOf m := by
  obtain ⟨h1, h2, h3⟩ := rung_parts h0 h
  refine ⟨?_, ?_, ?_⟩
  · unfold Just; rw [h1, h2]
    rw [show 1074 - (m.log2 + 1022) = 52 - m.log2 by omega, show m.log2 + 1022 - 1074 = 0 by omega, Nat.pow_zero, Nat.mul_one]
  · have e := ex_mg (rungOf m)
    have := mg_lt (rungOf m)
    rw [h1] at e; omega
  · have e := ex_mg (rungOf m)
    rw [h1] at e; omega

/-- Where mag times two to the place is a whole number of at most 53 binary digits, its rung is the nearest. -/
theorem nearest_int (neg : Bool) (mag : Nat) (place : Int) (m a b : Nat) (h0 : m ≠ 0) (hm : m < 9007199254740992)
    (h : mag * 2 ^ a = m * 2 ^ b) (hp : place + b = a) : double.nearest neg mag place = double.word neg (rungOf m) := by
  obtain ⟨h1, h2, h3⟩ := rung_parts h0 hm
  obtain ⟨_, j2, j3⟩ := rung_just h0 hm
  refine nearest_exact neg mag place (rungOf m) (a + (52 - m.log2)) b j2 j3 ?_ ?_
  · rw [Nat.pow_add, ← Nat.mul_assoc, h, h2, Nat.mul_assoc, Nat.mul_assoc, Nat.mul_comm (2 ^ b)]
  · rw [h1]; omega

end Go.Proofs.Ythlbeohogfjamaa
