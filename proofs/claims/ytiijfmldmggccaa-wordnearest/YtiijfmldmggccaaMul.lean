/- The product of a whole number's real one and a power of two's. No statement of the seat is proved here. -/
import Derived.Test.YtiijfmldmggccaaNearR
namespace Go.Proofs.Ytiijfmldmggccaa
open Go.RowKit Ieee

theorem read_pos {r : Nat} (h : r < 9218868437227405312) : double.read r = .number false (mg r) (-1074 + (ex r : Nat)) := by
  have e : r % 9223372036854775808 = r := Nat.mod_eq_of_lt (by omega)
  have := read_num (x := r) (by omega)
  rw [e, Nat.div_eq_of_lt (by omega)] at this
  exact this

theorem mul_pow {r k : Nat} (h : 4503599627370496 ≤ r) (hk : k ≤ 11) (hr : r + k * 4503599627370496 < 9218868437227405312) :
    double.mul r ((k + 1023) * 4503599627370496) = some (r + k * 4503599627370496) := by
  have e1 : ex ((k + 1023) * 4503599627370496) = k + 1022 := by unfold ex; omega
  have e2 : mg ((k + 1023) * 4503599627370496) = 4503599627370496 := by unfold mg; rw [e1]; omega
  have e3 : ex (r + k * 4503599627370496) = ex r + k := by unfold ex; omega
  have e4 : mg (r + k * 4503599627370496) = mg r := by unfold mg; rw [e3]; omega
  unfold Format.mul
  rw [read_pos (r := r) (by omega), read_pos (r := (k + 1023) * 4503599627370496) (by omega), e1, e2]
  show some (double.nearest (false ^^ false) (mg r * 4503599627370496) (-1074 + (ex r : Nat) + (-1074 + ((k + 1022 : Nat) : Int)))) = _
  rw [nearest_exact (false ^^ false) (mg r * 4503599627370496) _ (r + k * 4503599627370496) 0 52 hr (by omega) (by rw [e4, show (2 : Nat) ^ 52 = 4503599627370496 by rfl]; simp) (by rw [e3]; omega)]
  rfl

theorem mul_zero {k : Nat} (hk : k ≤ 11) : double.mul 0 ((k + 1023) * 4503599627370496) = some 0 := by
  unfold Format.mul
  rw [read_pos (r := 0) (by omega), read_pos (r := (k + 1023) * 4503599627370496) (by omega)]
  show some (double.nearest (false ^^ false) (mg 0 * mg ((k + 1023) * 4503599627370496)) _) = _
  rw [show mg 0 = 0 from rfl, Nat.zero_mul]
  unfold Format.nearest; rw [if_pos rfl]; rfl

theorem rg_pow : ∀ k, k ≤ 11 → rg (2 ^ k) = (k + 1023) * 4503599627370496 := by decide +kernel

theorem rg_kept {m : Nat} (z : m ≠ 0) : rg (kept m) + kOf m * 4503599627370496 = rg m := by
  by_cases s : m < 4503599627370496
  · rw [kept_small (by omega), kOf_zero (by omega)]; omega
  · have hr := kept_range (m := m) (by omega)
    have e : rg (kept m) = 1074 * 4503599627370496 + kept m := by
      by_cases c : kept m = 9007199254740992
      · rw [c]; decide +kernel
      · unfold rg
        rw [if_neg (by omega), if_neg (by omega), kept_small (m := kept m) (by omega), kOf_zero (m := kept m) (by omega)]
    rw [e]
    conv => rhs; unfold rg
    rw [if_neg z, if_neg s]; omega

theorem nr_nat {u : Nat} (h : u < 18446744073709551616) : nr (u : Int) = rg u := by
  rw [nr_eq (by omega)]
  have : decide ((u : Int) < 0) = false := by simp
  rw [this]; rfl

theorem mul_kept {m : Nat} (h : m < 18446744073709551616) : floatBits .mul .f64 (nr ((kept m : Nat) : Int)) (nr ((2 ^ kOf m : Nat) : Int)) = some (rg m) := by
  have hk := kOf_le h
  have hp : 2 ^ kOf m ≤ 2 ^ 11 := Nat.pow_le_pow_right (by decide) hk
  have hkept : kept m ≤ 9007199254740992 := by
    by_cases s : m < 4503599627370496
    · rw [kept_small (by omega)]; omega
    · exact (kept_range (m := m) (by omega)).2
  rw [nr_nat (by omega), nr_nat (by omega), rg_pow _ hk]
  show double.mul _ _ = _
  by_cases z : m = 0
  · subst z
    rw [show kept 0 = 0 from kept_small (by omega), show rg 0 = 0 from if_pos rfl]
    exact mul_zero hk
  · have e := rg_kept z
    have hr := (rg_lt h).1
    have hl := (rg_lt (m := kept m) (by omega)).2 (by
      by_cases s : m < 4503599627370496
      · rw [kept_small (by omega)]; exact z
      · have := (kept_range (m := m) (by omega)).1; omega)
    rw [mul_pow hl hk (by omega), e]

theorem neg_rg {r : Nat} (h : r < 9223372036854775808) : Op.negFloat .f64 r = double.word true r := by
  have e : Op.negFloat .f64 r = r ^^^ 2 ^ 63 := rfl
  rw [e, xtop 63 r (by omega), if_pos (by omega)]
  show r + 2 ^ 63 = double.signWeight + r
  rw [sw]; omega

end Go.Proofs.Ytiijfmldmggccaa
