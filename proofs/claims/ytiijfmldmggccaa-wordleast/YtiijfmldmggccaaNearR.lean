/- The real number nearest to a whole one: the model's, and the document's by halving. No statement of the seat is proved here. -/
import Derived.Test.YtiijfmldmggccaaWhole
namespace Go.Proofs.Ytiijfmldmggccaa
open Go.RowKit Ieee

/-- How many binary digits are cut off, and what is kept. -/
def kOf (m : Nat) : Nat := m.log2 - 52
def kept (m : Nat) : Nat := m / 2 ^ kOf m + (2 ^ kOf m < 2 * (m % 2 ^ kOf m) || (2 ^ kOf m == 2 * (m % 2 ^ kOf m) && m / 2 ^ kOf m % 2 == 1)).toNat
/-- The rung of the nearest one. -/
def rg (m : Nat) : Nat := if m = 0 then 0 else if m < 4503599627370496 then rungOf m else (kOf m + 1074) * 4503599627370496 + kept m

theorem kOf_zero {m : Nat} (h : m < 9007199254740992) : kOf m = 0 := by
  unfold kOf
  by_cases z : m = 0
  · subst z; decide
  · have : m.log2 < 53 := (Nat.log2_lt z).2 (by rw [show (2:Nat) ^ 53 = 9007199254740992 by rfl]; exact h)
    omega
theorem kOf_le {m : Nat} (h : m < 18446744073709551616) : kOf m ≤ 11 := by
  unfold kOf
  by_cases z : m = 0
  · subst z; decide
  · have : m.log2 < 64 := (Nat.log2_lt z).2 (by rw [show (2:Nat) ^ 64 = 18446744073709551616 by rfl]; exact h)
    omega
theorem kOf_div {m : Nat} : m / 2 ^ kOf m < 9007199254740992 := by
  by_cases z : m = 0
  · subst z; decide
  · have h := ((log2_iff z).1 rfl).2
    rw [Nat.div_lt_iff_lt_mul (Nat.two_pow_pos _), show (9007199254740992 : Nat) = 2 ^ 53 by rfl, ← Nat.pow_add]
    refine Nat.lt_of_lt_of_le h (Nat.pow_le_pow_right (by decide) ?_)
    unfold kOf; omega
theorem kOf_more {m j : Nat} (hj : j < kOf m) : 9007199254740992 ≤ m / 2 ^ j := by
  have z : m ≠ 0 := by intro e; subst e; rw [show kOf 0 = 0 from kOf_zero (by omega)] at hj; omega
  have h := ((log2_iff z).1 (rfl : m.log2 = m.log2)).1
  rw [Nat.le_div_iff_mul_le (Nat.two_pow_pos _), show (9007199254740992 : Nat) = 2 ^ 53 by rfl, ← Nat.pow_add]
  refine Nat.le_trans (Nat.pow_le_pow_right (by decide) ?_) h
  unfold kOf at hj; omega
theorem kOf_low {m : Nat} (h : 4503599627370496 ≤ m) : 4503599627370496 ≤ m / 2 ^ kOf m := by
  have z : m ≠ 0 := by omega
  have h1 := ((log2_iff z).1 (rfl : m.log2 = m.log2)).1
  have h2 : 52 ≤ m.log2 := (Nat.le_log2 z).2 (by rw [show (2:Nat) ^ 52 = 4503599627370496 by rfl]; exact h)
  rw [Nat.le_div_iff_mul_le (Nat.two_pow_pos _), show (4503599627370496 : Nat) = 2 ^ 52 by rfl, ← Nat.pow_add]
  refine Nat.le_trans (Nat.pow_le_pow_right (by decide) ?_) h1
  unfold kOf; omega
theorem kept_range {m : Nat} (h : 4503599627370496 ≤ m) : 4503599627370496 ≤ kept m ∧ kept m ≤ 9007199254740992 := by
  have h1 := kOf_low h
  have h2 := kOf_div (m := m)
  unfold kept
  have h3 := Bool.toNat_le (2 ^ kOf m < 2 * (m % 2 ^ kOf m) || (2 ^ kOf m == 2 * (m % 2 ^ kOf m) && m / 2 ^ kOf m % 2 == 1))
  omega
theorem kept_small {m : Nat} (h : m < 9007199254740992) : kept m = m := by
  unfold kept; rw [kOf_zero h]; simp [Nat.mod_one]

/-- The parts of the rung of what is kept. -/
theorem big_parts {k u : Nat} (h1 : 4503599627370496 ≤ u) (h2 : u ≤ 9007199254740992) :
    Just ((k + 1074) * 4503599627370496 + u) (u * 2 ^ k) := by
  unfold Just
  by_cases c : u = 9007199254740992
  · subst c
    have e : ex ((k + 1074) * 4503599627370496 + 9007199254740992) = k + 1075 := by unfold ex; omega
    have g : mg ((k + 1074) * 4503599627370496 + 9007199254740992) = 4503599627370496 := by unfold mg; rw [e]; omega
    rw [e, g, show 1074 - (k + 1075) = 0 by omega, show k + 1075 - 1074 = k + 1 by omega, Nat.pow_succ]
    omega
  · have e : ex ((k + 1074) * 4503599627370496 + u) = k + 1074 := by unfold ex; omega
    have g : mg ((k + 1074) * 4503599627370496 + u) = u := by unfold mg; rw [e]; omega
    rw [e, g, show 1074 - (k + 1074) = 0 by omega, show k + 1074 - 1074 = k by omega]
    simp

theorem nearest_rg (neg : Bool) {m : Nat} (h : m < 18446744073709551616) : double.nearest neg m 0 = double.word neg (rg m) := by
  unfold rg
  by_cases z : m = 0
  · subst z; rw [if_pos rfl]; unfold Format.nearest; rw [if_pos rfl]
  · rw [if_neg z]
    by_cases s : m < 4503599627370496
    · rw [if_pos s]
      obtain ⟨j1, j2, j3⟩ := rung_just z (by omega)
      exact nearest_just neg j2 j3 j1
    · rw [if_neg s]
      have hl : 52 ≤ m.log2 := (Nat.le_log2 z).2 (by rw [show (2:Nat) ^ 52 = 4503599627370496 by rfl]; omega)
      have hk := kOf_le h
      have hr := kept_range (m := m) (by omega)
      have hlast : max ((0 : Int) + (m.log2 : Nat) - (double.fractionBits : Nat)) (-1074) = (kOf m : Nat) := by
        have : (double.fractionBits : Int) = 52 := rfl
        rw [this]; unfold kOf; omega
      simp only [Format.nearest, if_neg z, lp, hlast, bn, ir]
      have e1 : ((0 : Int) - (kOf m : Nat)).toNat = 0 := by omega
      have e2 : ((kOf m : Nat) - (0 : Int)).toNat = kOf m := by omega
      have e3 : ((kOf m : Nat) - (-1074 : Int)).toNat = kOf m + 1074 := by omega
      rw [e1, e2, e3, Nat.shiftLeft_zero]
      have e4 : Toward.even.cut neg m (kOf m) = kept m := by
        have : min (kOf m) (m.log2 + 2) = kOf m := by unfold kOf; omega
        simp only [Toward.cut, this, Nat.shiftLeft_eq, Nat.one_mul, kept]
      rw [e4, Nat.min_eq_left (by omega)]

theorem rg_lt {m : Nat} (h : m < 18446744073709551616) : rg m < 9218868437227405312 ∧ (m ≠ 0 → 4503599627370496 ≤ rg m) := by
  unfold rg
  by_cases z : m = 0
  · subst z; simp
  · rw [if_neg z]
    by_cases s : m < 4503599627370496
    · rw [if_pos s]
      obtain ⟨j1, j2, j3⟩ := rung_just z (by omega)
      refine ⟨j2, fun _ => ?_⟩
      unfold rungOf; omega
    · rw [if_neg s]
      have hk := kOf_le h
      have hr := kept_range (m := m) (by omega)
      omega

/-- What the nearest one is, as a whole number. -/
theorem rg_just {m : Nat} (z : m ≠ 0) : Just (rg m) (kept m * 2 ^ kOf m) := by
  unfold rg; rw [if_neg z]
  by_cases s : m < 4503599627370496
  · rw [if_pos s, kept_small (by omega), kOf_zero (by omega), Nat.pow_zero, Nat.mul_one]
    exact (rung_just z (by omega)).1
  · rw [if_neg s]
    have hr := kept_range (m := m) (by omega)
    exact big_parts hr.1 hr.2

theorem word_parts (neg : Bool) {r : Nat} (h : r < 9223372036854775808) : (double.word neg r / 9223372036854775808 % 2 == 1) = neg ∧ double.word neg r % 9223372036854775808 = r ∧ double.word neg r < 18446744073709551616 ∧ key (double.word neg r) = sg neg r ∧ nan (double.word neg r) = decide (9218868437227405312 < r) := by
  have e : double.word neg r = if neg then 9223372036854775808 + r else r := by unfold Format.word; rw [sw]
  rw [e]
  cases neg
  · have a1 : r / 9223372036854775808 = 0 := Nat.div_eq_of_lt h
    have a2 : r % 9223372036854775808 = r := Nat.mod_eq_of_lt h
    refine ⟨?_, ?_, ?_, ?_, ?_⟩
    · simp [a1]
    · simpa using a2
    · simp; omega
    · simp [key, sg, h]
    · simp [nan, a2]
  · have a1 : (9223372036854775808 + r) / 9223372036854775808 = 1 := by omega
    have a2 : (9223372036854775808 + r) % 9223372036854775808 = r := by omega
    refine ⟨?_, ?_, ?_, ?_, ?_⟩
    · simp [a1]
    · simpa using a2
    · simp; omega
    · simp [key, sg]; omega
    · simp [nan, a2]

/-- The bits of the real number nearest to a whole one. -/
def nr (x : Int) : Nat := floatOfInt .f64 x
theorem nr_eq {x : Int} (h : x.natAbs < 18446744073709551616) : nr x = double.word (decide (x < 0)) (rg x.natAbs) :=
  nearest_rg _ h
theorem nr_parts {x : Int} (h : x.natAbs < 18446744073709551616) : nr x < 18446744073709551616 ∧ nan (nr x) = false ∧ key (nr x) = sg (decide (x < 0)) (rg x.natAbs) ∧ wcut (nr x) = sg (decide (x < 0)) (whole (rg x.natAbs)) := by
  have hr := (rg_lt h).1
  obtain ⟨p1, p2, p3, p4, p5⟩ := word_parts (decide (x < 0)) (r := rg x.natAbs) (by omega)
  rw [nr_eq h]
  refine ⟨p3, ?_, p4, ?_⟩
  · rw [p5]; simp; omega
  · unfold wcut; rw [p1, p2]

theorem sg_abs (x : Int) : sg (decide (x < 0)) x.natAbs = x := by
  unfold sg; by_cases c : x < 0 <;> simp [c] <;> omega

/-- Where nothing is left over, the nearest one is it, and Whole says so. -/
theorem nr_exact {x : Int} (h0 : -9223372036854775808 ≤ x) (h1 : x < 9223372036854775808) (hr : x.natAbs % 2 ^ kOf x.natAbs = 0) : whK (nr x) = true ∧ whN (nr x) = x := by
  have hx : x.natAbs < 18446744073709551616 := by omega
  obtain ⟨p1, p2, p3, p4⟩ := nr_parts hx
  have hk : kept x.natAbs * 2 ^ kOf x.natAbs = x.natAbs := by
    have : kept x.natAbs = x.natAbs / 2 ^ kOf x.natAbs := by
      unfold kept; rw [hr]
      have : ¬ 2 ^ kOf x.natAbs < 2 * 0 := by omega
      have hp := Nat.two_pow_pos (kOf x.natAbs)
      simp
    rw [this]; have := Nat.div_add_mod x.natAbs (2 ^ kOf x.natAbs); rw [hr] at this; rw [Nat.mul_comm]; omega
  have hw : wcut (nr x) = x := by
    rw [p4]
    by_cases z : x.natAbs = 0
    · have : x = 0 := by omega
      subst this
      rw [show rg (0 : Int).natAbs = 0 from if_pos rfl, show whole 0 = 0 from by unfold whole mg; simp]; rfl
    · have j := rg_just z
      rw [hk] at j
      rw [whole_just j, sg_abs]
  have hi : inR (nr x) = true := by
    unfold inR; rw [p2, p3]
    have hb : rg x.natAbs ≤ 4890909195324358656 ∧ (x.natAbs < 9223372036854775808 → rg x.natAbs < 4890909195324358656) := by
      unfold rg
      by_cases z : x.natAbs = 0
      · rw [if_pos z]; omega
      · rw [if_neg z]
        by_cases s : x.natAbs < 4503599627370496
        · rw [if_pos s]
          obtain ⟨e1, e2, e3⟩ := rung_parts z (by omega)
          have := ex_mg (rungOf x.natAbs); have := mg_lt (rungOf x.natAbs)
          omega
        · rw [if_neg s]
          have hr := kept_range (m := x.natAbs) (by omega)
          have h63 : x.natAbs < 9223372036854775808 → kOf x.natAbs ≤ 10 := by
            intro hlt
            have : x.natAbs.log2 < 63 := (Nat.log2_lt z).2 (by rw [show (2:Nat) ^ 63 = 9223372036854775808 by rfl]; exact hlt)
            unfold kOf; omega
          by_cases b : x.natAbs < 9223372036854775808
          · have k10 := h63 b
            have : (kOf x.natAbs + 1074) * 4503599627370496 + kept x.natAbs < 4890909195324358656 := by
              by_cases k : kOf x.natAbs = 10
              · have : kept x.natAbs < 9007199254740992 := by
                  rw [k] at hk
                  omega
                omega
              · omega
            omega
          · have e : x.natAbs = 9223372036854775808 := by omega
            rw [e]
            refine ⟨by decide +kernel, fun h => absurd h (by omega)⟩
    simp
    by_cases c : x < 0 <;> simp [sg, c] <;> omega
  have hq : whK (nr x) = true := by
    unfold whK; rw [hi, hw]
    have := ord_eq p1 p1 p2 p2
    rw [show floatOfInt .f64 x = nr x from rfl, this]; simp
  exact ⟨hq, by unfold whN; rw [if_pos hq, hw]⟩

/-- Where something is left over, it is another one. -/
theorem nr_other {x : Int} (h0 : -9223372036854775808 ≤ x) (h1 : x < 9223372036854775808) (hr : x.natAbs % 2 ^ kOf x.natAbs ≠ 0) : (whK (nr x) && (whN (nr x) == x)) = false := by
  have hx : x.natAbs < 18446744073709551616 := by omega
  obtain ⟨p1, p2, p3, p4⟩ := nr_parts hx
  have z : x.natAbs ≠ 0 := by intro e; rw [e] at hr; simp at hr
  cases k : whK (nr x)
  · rfl
  · have : whN (nr x) ≠ x := by
      unfold whN; rw [if_pos k, p4, whole_just (rg_just z)]
      intro e
      have : x.natAbs = kept x.natAbs * 2 ^ kOf x.natAbs := by
        have e2 : (sg (decide (x < 0)) (kept x.natAbs * 2 ^ kOf x.natAbs)).natAbs = kept x.natAbs * 2 ^ kOf x.natAbs := by unfold sg; split <;> omega
        rw [e] at e2; exact e2
      apply hr
      generalize kept x.natAbs = q at this
      generalize kOf x.natAbs = k' at this ⊢
      rw [this]; exact Nat.mul_mod_left _ _
    simp [this]
end Go.Proofs.Ytiijfmldmggccaa
