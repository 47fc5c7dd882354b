/-
  No statement of the seat is proved here. (Several texts in one: Math, Near.)
-/
import Ieee.Arith

/- Of two real numbers, given by their bits, the model's order is the order of their places: sign and lower bits. -/
namespace Go.Proofs.Ytalopkllldnipaa
open Ieee

/-- Is it the bits of no number? -/
def nan (x : Nat) : Bool := decide (9218868437227405312 < x % 9223372036854775808)

/-- The place of a real number among them: both noughts at 0. -/
def key (x : Nat) : Int := if x < 9223372036854775808 then (x : Int) else 9223372036854775808 - (x : Int)

def ex (r : Nat) : Nat := r / 4503599627370496 - 1
def mg (r : Nat) : Nat := r - ex r * 4503599627370496

theorem sw : double.signWeight = 9223372036854775808 := by decide
theorem bn : double.binade = 4503599627370496 := by decide
theorem ir : double.infRung = 9218868437227405312 := by decide
theorem lp : double.leastPlace = -1074 := by decide

theorem mg_low {r : Nat} (h : r < 4503599627370496) : mg r = r ∧ ex r = 0 := by
  have h0 : r / 4503599627370496 = 0 := Nat.div_eq_of_lt h
  simp [mg, ex, h0]

theorem mg_high {r : Nat} (h : ¬ r < 4503599627370496) : mg r = 4503599627370496 + r % 4503599627370496 := by
  simp only [mg, ex]; omega

theorem mg_lt (r : Nat) : mg r < 9007199254740992 := by
  simp only [mg, ex]; omega

theorem mg_ge {r : Nat} (h : ex r ≠ 0) : 4503599627370496 ≤ mg r := by
  simp only [mg, ex] at *; omega

theorem read_num {x : Nat} (h : x % 9223372036854775808 < 9218868437227405312) :
    double.read x = .number (x / 9223372036854775808 % 2 == 1) (mg (x % 9223372036854775808)) (-1074 + (ex (x % 9223372036854775808) : Nat)) := by
  simp only [Format.read, sw, bn, ir, lp]
  by_cases hl : x % 9223372036854775808 < 4503599627370496
  · rw [if_pos hl, (mg_low hl).1, (mg_low hl).2]; simp
  · rw [if_neg hl, if_pos h, mg_high hl]; rfl

theorem read_inf {x : Nat} (h : x % 9223372036854775808 = 9218868437227405312) :
    double.read x = .infinity (x / 9223372036854775808 % 2 == 1) := by
  simp [Format.read, sw, bn, ir, h]

theorem read_nan {x : Nat} (h : 9218868437227405312 < x % 9223372036854775808) :
    ∃ s t, double.read x = .nan s t := by
  refine ⟨(x / 9223372036854775808 % 2 == 1), x % 9223372036854775808 - 9218868437227405312, ?_⟩
  simp only [Format.read, sw, bn, ir]
  rw [if_neg (by omega), if_neg (by omega), if_neg (by omega)]

/-- The number as a multiple of the least one. -/
def size (r : Nat) : Nat := mg r * 2 ^ ex r

theorem size_lt {r s : Nat} (h : r < s) : size r < size s := by
  unfold size
  rcases Nat.lt_trichotomy (ex r) (ex s) with he | he | he
  · have h1 : mg r * 2 ^ ex r < 9007199254740992 * 2 ^ ex r := Nat.mul_lt_mul_of_pos_right (mg_lt r) (Nat.two_pow_pos _)
    have h2 : (9007199254740992 : Nat) * 2 ^ ex r = 4503599627370496 * 2 ^ (ex r + 1) := by rw [Nat.pow_succ]; omega
    have h3 : 4503599627370496 * 2 ^ (ex r + 1) ≤ 4503599627370496 * 2 ^ ex s := Nat.mul_le_mul_left _ (Nat.pow_le_pow_right (by decide) he)
    have h4 : 4503599627370496 * 2 ^ ex s ≤ mg s * 2 ^ ex s := Nat.mul_le_mul_right _ (mg_ge (by omega))
    omega
  · rw [he]
    refine Nat.mul_lt_mul_of_pos_right ?_ (Nat.two_pow_pos _)
    simp only [mg]; rw [he]
    have : ex s * 4503599627370496 ≤ r := by rw [← he]; simp only [ex]; omega
    omega
  · exfalso; simp only [ex] at he; omega

theorem size_inj_lt (r s : Nat) : (size r < size s) ↔ r < s := by
  constructor
  · intro h
    rcases Nat.lt_trichotomy r s with h1 | h1 | h1
    · exact h1
    · subst h1; omega
    · have := size_lt h1; omega
  · exact size_lt

theorem size_inj (r s : Nat) : (size r = size s) ↔ r = s := by
  constructor
  · intro h
    rcases Nat.lt_trichotomy r s with h1 | h1 | h1
    · have := size_lt h1; omega
    · exact h1
    · have := size_lt h1; omega
  · intro h; rw [h]

def sg (b : Bool) (n : Nat) : Int := if b then -(n : Int) else (n : Int)

theorem signed_eq (b : Bool) (m k : Nat) : signed b m k = sg b (m * 2 ^ k) := by
  simp [signed, sg, Nat.shiftLeft_eq]

theorem sg_mul (b : Bool) (n k : Nat) : sg b (n * k) = sg b n * (k : Int) := by
  cases b <;> simp [sg, Int.neg_mul]

theorem cmp_int (a b : Int) : compare a b = if a < b then .lt else if a = b then .eq else .gt := rfl

theorem cmp_scale (a b : Int) (k : Nat) (hk : 0 < k) : compare (a * (k : Int)) (b * (k : Int)) = compare a b := by
  have hk' : (0 : Int) < (k : Int) := by omega
  have e1 : (a * (k : Int) < b * (k : Int)) ↔ a < b := by
    constructor
    · intro h; exact Int.lt_of_mul_lt_mul_right h (by omega)
    · intro h; exact Int.mul_lt_mul_of_pos_right h hk'
  have e2 : (a * (k : Int) = b * (k : Int)) ↔ a = b := by
    constructor
    · intro h; exact Int.eq_of_mul_eq_mul_right (by omega) h
    · intro h; rw [h]
  simp only [cmp_int, e1, e2]

theorem order_num {s t : Bool} {r q : Nat} :
    Datum.order (.number s (mg r) (-1074 + (ex r : Nat))) (.number t (mg q) (-1074 + (ex q : Nat))) = some (compare (sg s (size r)) (sg t (size q))) := by
  simp only [Datum.order, signed_eq]
  have hm : min ((-1074 : Int) + (ex r : Nat)) (-1074 + (ex q : Nat)) = -1074 + (min (ex r) (ex q) : Nat) := by omega
  rw [hm]
  have h1 : ((-1074 : Int) + (ex r : Nat) - (-1074 + (min (ex r) (ex q) : Nat))).toNat = ex r - min (ex r) (ex q) := by omega
  have h2 : ((-1074 : Int) + (ex q : Nat) - (-1074 + (min (ex r) (ex q) : Nat))).toNat = ex q - min (ex r) (ex q) := by omega
  rw [h1, h2, ← cmp_scale _ _ (2 ^ min (ex r) (ex q)) (Nat.two_pow_pos _), ← sg_mul, ← sg_mul, Nat.mul_assoc, Nat.mul_assoc, ← Nat.pow_add, ← Nat.pow_add]
  rw [show ex r - min (ex r) (ex q) + min (ex r) (ex q) = ex r by omega, show ex q - min (ex r) (ex q) + min (ex r) (ex q) = ex q by omega]
  rfl

theorem cmp_size (s t : Bool) (r q : Nat) : compare (sg s (size r)) (sg t (size q)) = compare (sg s r) (sg t q) := by
  have z : size 0 = 0 := by decide
  have a1 := size_inj_lt r q
  have a2 := size_inj_lt q r
  have a3 := size_inj r q
  have a4 := size_inj r 0
  have a5 := size_inj q 0
  rw [z] at a4 a5
  simp only [cmp_int]
  have e1 : (sg s (size r) < sg t (size q)) ↔ sg s r < sg t q := by
    cases s <;> cases t <;> simp only [sg] <;> simp <;> omega
  have e2 : (sg s (size r) = sg t (size q)) ↔ sg s r = sg t q := by
    cases s <;> cases t <;> simp only [sg] <;> simp <;> omega
  simp only [e1, e2]

theorem sg_key {x : Nat} (hx : x < 18446744073709551616) : sg (x / 9223372036854775808 % 2 == 1) (x % 9223372036854775808) = key x := by
  unfold key
  by_cases h : x < 9223372036854775808
  · rw [if_pos h, Nat.div_eq_of_lt h, Nat.mod_eq_of_lt h]; rfl
  · rw [if_neg h]
    have h1 : x / 9223372036854775808 = 1 := by omega
    rw [h1]
    simp only [sg]
    simp
    omega

theorem order_key {x y : Nat} (hx : x < 18446744073709551616) (hy : y < 18446744073709551616) (nx : nan x = false) (ny : nan y = false) :
    double.order x y = some (compare (key x) (key y)) := by
  simp only [nan, decide_eq_false_iff_not, Nat.not_lt] at nx ny
  unfold Format.order
  rw [← sg_key hx, ← sg_key hy]
  generalize hs : (x / 9223372036854775808 % 2 == 1) = s
  generalize ht : (y / 9223372036854775808 % 2 == 1) = t
  by_cases ix : x % 9223372036854775808 = 9218868437227405312
  · by_cases iy : y % 9223372036854775808 = 9218868437227405312
    · rw [read_inf ix, read_inf iy, hs, ht, ix, iy]
      cases s <;> cases t <;> rfl
    · rw [read_inf ix, read_num (by omega), hs, ht, ix]
      generalize y % 9223372036854775808 = q at *
      cases s <;> cases t <;> simp only [Datum.order, sg, cmp_int] <;> simp <;> (repeat' split) <;> first | rfl | omega
  · by_cases iy : y % 9223372036854775808 = 9218868437227405312
    · rw [read_inf iy, read_num (by omega), hs, ht, iy]
      generalize x % 9223372036854775808 = q at *
      cases s <;> cases t <;> simp only [Datum.order, sg, cmp_int] <;> simp <;> (repeat' split) <;> first | rfl | omega
    · rw [read_num (x := x) (by omega), read_num (x := y) (by omega), order_num, cmp_size, hs, ht]

theorem order_nan_left {x y : Nat} (nx : nan x = true) : double.order x y = none := by
  simp only [nan, decide_eq_true_eq] at nx
  obtain ⟨s, t, h⟩ := read_nan nx
  unfold Format.order; rw [h]; rfl

theorem order_nan_right {x y : Nat} (ny : nan y = true) : double.order x y = none := by
  simp only [nan, decide_eq_true_eq] at ny
  obtain ⟨s, t, h⟩ := read_nan ny
  unfold Format.order; rw [h]; cases double.read x <;> rfl

end Go.Proofs.Ytalopkllldnipaa


/- Where a real number's bits hold a number just so, the model's nearest one is it; and what is cut towards nought. -/
namespace Go.Proofs.Ytalopkllldnipaa
open Ieee

theorem log2_iff {n k : Nat} (h : n ≠ 0) : n.log2 = k ↔ 2 ^ k ≤ n ∧ n < 2 ^ (k + 1) := Nat.log2_eq_iff h

theorem log2_mul (m k : Nat) (h : m ≠ 0) : (m * 2 ^ k).log2 = m.log2 + k := by
  have hp := Nat.two_pow_pos k
  obtain ⟨h1, h2⟩ := (log2_iff h).1 rfl
  refine (log2_iff (Nat.mul_ne_zero h (by omega))).2 ⟨?_, ?_⟩
  · rw [Nat.pow_add]; exact Nat.mul_le_mul_right _ h1
  · rw [show m.log2 + k + 1 = m.log2 + 1 + k by omega, Nat.pow_add]; exact Nat.mul_lt_mul_of_pos_right h2 hp

theorem cut_exact (neg : Bool) (m k : Nat) (h : m ≠ 0) : Toward.even.cut neg (m * 2 ^ k) k = m := by
  have hp := Nat.two_pow_pos k
  have hl : min k ((m * 2 ^ k).log2 + 2) = k := by rw [log2_mul m k h]; omega
  simp only [Toward.cut, hl, Nat.shiftLeft_eq, Nat.one_mul, Nat.mul_div_cancel _ hp, Nat.mul_mod_left]
  have : ¬ (2 ^ k < 2 * 0) := by omega
  have h2 : (2 ^ k == 2 * 0) = false := by simp
  simp [h2]

theorem cut_zero (s : Bool) (n d : Nat) : Toward.zero.cut s n d = n / 2 ^ d := by
  simp only [Toward.cut, Nat.shiftLeft_eq, Nat.one_mul, Bool.toNat_false, Nat.add_zero]
  by_cases h : d ≤ n.log2 + 2
  · rw [Nat.min_eq_left h]
  · rw [Nat.min_eq_right (by omega)]
    by_cases z : n = 0
    · subst z; simp
    · have h2 := ((log2_iff z).1 rfl).2
      have h3 : 2 ^ (n.log2 + 1) ≤ 2 ^ (n.log2 + 2) := Nat.pow_le_pow_right (by decide) (by omega)
      have h4 : 2 ^ (n.log2 + 1) ≤ 2 ^ d := Nat.pow_le_pow_right (by decide) (by omega)
      rw [Nat.div_eq_of_lt (by omega), Nat.div_eq_of_lt (by omega)]

theorem mg_pos {r : Nat} (h : 0 < r) : mg r ≠ 0 := by simp only [mg, ex]; omega

theorem mg_norm {r : Nat} (h : 4503599627370496 ≤ r) : (mg r).log2 = 52 := by
  have h1 : mg r = 4503599627370496 + r % 4503599627370496 := mg_high (by omega)
  exact (log2_iff (by omega)).2 ⟨by rw [show (2:Nat) ^ 52 = 4503599627370496 by rfl]; omega, by rw [show (2:Nat) ^ (52 + 1) = 9007199254740992 by rfl]; exact mg_lt r⟩

theorem ex_mg (r : Nat) : ex r * 4503599627370496 + mg r = r := by simp only [mg, ex]; omega

theorem last_eq {r : Nat} (h : 0 < r) : max ((-1074 : Int) + (ex r : Nat) + ((mg r).log2 : Nat) - 52) (-1074) = -1074 + (ex r : Nat) := by
  by_cases c : 4503599627370496 ≤ r
  · rw [mg_norm c]; omega
  · obtain ⟨h1, h2⟩ := mg_low (r := r) (by omega)
    have : (mg r).log2 < 53 := (Nat.log2_lt (by rw [h1]; omega)).2 (by rw [show (2:Nat) ^ 53 = 9007199254740992 by rfl]; exact mg_lt r)
    rw [h2]; omega

theorem nearest_exact (neg : Bool) (mag : Nat) (place : Int) (r a b : Nat) (hr : r < 9218868437227405312) (h0 : 0 < r)
    (h : mag * 2 ^ a = mg r * 2 ^ b) (hp : place + b = -1074 + (ex r : Nat) + a) : double.nearest neg mag place = double.word neg r := by
  have hg := mg_pos h0
  have hm : mag ≠ 0 := by
    intro e; subst e
    have := Nat.mul_ne_zero hg (Nat.ne_of_gt (Nat.two_pow_pos b))
    omega
  have hl : mag.log2 + a = (mg r).log2 + b := by rw [← log2_mul _ _ hm, ← log2_mul _ _ hg, h]
  have hlast : max (place + (mag.log2 : Nat) - (double.fractionBits : Nat)) double.leastPlace = -1074 + (ex r : Nat) := by
    rw [lp, ← last_eq h0]
    have : (double.fractionBits : Int) = 52 := rfl
    rw [this]
    congr 1
    omega
  rw [lp] at hlast
  simp only [Format.nearest, if_neg hm, lp, hlast, bn, ir]
  have hk : mag <<< (place - (-1074 + (ex r : Nat))).toNat = mg r * 2 ^ ((-1074 + (ex r : Nat)) - place).toNat := by
    rw [Nat.shiftLeft_eq]
    by_cases c : b ≤ a
    · have e1 : (place - (-1074 + (ex r : Nat))).toNat = a - b := by omega
      have e2 : ((-1074 + (ex r : Nat)) - place).toNat = 0 := by omega
      rw [e1, e2, Nat.pow_zero, Nat.mul_one]
      have : mag * 2 ^ (a - b) * 2 ^ b = mg r * 2 ^ b := by rw [Nat.mul_assoc, ← Nat.pow_add, Nat.sub_add_cancel c, h]
      exact Nat.eq_of_mul_eq_mul_right (Nat.two_pow_pos b) this
    · have e1 : (place - (-1074 + (ex r : Nat))).toNat = 0 := by omega
      have e2 : ((-1074 + (ex r : Nat)) - place).toNat = b - a := by omega
      rw [e1, e2, Nat.pow_zero, Nat.mul_one]
      have : mag * 2 ^ a = mg r * 2 ^ (b - a) * 2 ^ a := by rw [Nat.mul_assoc, ← Nat.pow_add, Nat.sub_add_cancel (by omega), h]
      exact Nat.eq_of_mul_eq_mul_right (Nat.two_pow_pos a) this
  rw [hk, cut_exact neg _ _ hg]
  have e : ((-1074 + (ex r : Nat)) - (-1074 : Int)).toNat = ex r := by omega
  rw [e, ex_mg, Nat.min_eq_left (by omega)]

/-- A real number of that rung, cut towards nought. -/
def whole (r : Nat) : Nat := mg r * 2 ^ (ex r - 1074) / 2 ^ (1074 - ex r)

theorem toInt_eq {x : Nat} (h : x % 9223372036854775808 < 9218868437227405312) :
    (double.read x).toInt .zero = some (sg (x / 9223372036854775808 % 2 == 1) (whole (x % 9223372036854775808))) := by
  rw [read_num h]
  simp only [Datum.toInt, Datum.integral, cut_zero, signed_eq, Nat.shiftLeft_eq, Nat.pow_zero, Nat.mul_one, whole]
  have e1 : ((-1074 : Int) + (ex (x % 9223372036854775808) : Nat)).toNat = ex (x % 9223372036854775808) - 1074 := by omega
  have e2 : (-((-1074 : Int) + (ex (x % 9223372036854775808) : Nat))).toNat = 1074 - ex (x % 9223372036854775808) := by omega
  rw [e1, e2]

theorem whole_lt {r : Nat} (h : r < 4890909195324358656) : whole r < 9223372036854775808 := by
  unfold whole
  have he : ex r ≤ 1084 := by simp only [ex]; omega
  have h1 := mg_lt r
  have h2 : 2 ^ (ex r - 1074) ≤ 2 ^ 10 := Nat.pow_le_pow_right (by decide) (by omega)
  have h3 : mg r * 2 ^ (ex r - 1074) ≤ mg r * 2 ^ 10 := Nat.mul_le_mul_left _ h2
  have h4 := Nat.div_le_self (mg r * 2 ^ (ex r - 1074)) (2 ^ (1074 - ex r))
  omega

theorem whole_bound : whole 4890909195324358656 = 9223372036854775808 := by decide

/-- The rung holds that whole number just so. -/
def Just (r m : Nat) : Prop := m * 2 ^ (1074 - ex r) = mg r * 2 ^ (ex r - 1074)

theorem whole_just {r m : Nat} (h : Just r m) : whole r = m := by
  unfold whole; rw [← show _ = _ from h, Nat.mul_div_cancel _ (Nat.two_pow_pos _)]

theorem nearest_just (neg : Bool) {r m : Nat} (hr : r < 9218868437227405312) (h0 : 0 < r) (h : Just r m) :
    double.nearest neg m 0 = double.word neg r :=
  nearest_exact neg m 0 r _ _ hr h0 h (by omega)

/-- The rung of a whole number of at most 53 binary digits. -/
def rungOf (m : Nat) : Nat := (m.log2 + 1022) * 4503599627370496 + m * 2 ^ (52 - m.log2)

theorem rung_parts {m : Nat} (h0 : m ≠ 0) (h : m < 9007199254740992) :
    ex (rungOf m) = m.log2 + 1022 ∧ mg (rungOf m) = m * 2 ^ (52 - m.log2) ∧ m.log2 ≤ 52 := by
  have hl : m.log2 < 53 := (Nat.log2_lt h0).2 (by rw [show (2:Nat) ^ 53 = 9007199254740992 by rfl]; exact h)
  obtain ⟨a1, a2⟩ := (log2_iff h0).1 (rfl : m.log2 = m.log2)
  have b1 : 2 ^ m.log2 * 2 ^ (52 - m.log2) ≤ m * 2 ^ (52 - m.log2) := Nat.mul_le_mul_right _ a1
  have b2 : m * 2 ^ (52 - m.log2) < 2 ^ (m.log2 + 1) * 2 ^ (52 - m.log2) := Nat.mul_lt_mul_of_pos_right a2 (Nat.two_pow_pos _)
  rw [← Nat.pow_add, show m.log2 + (52 - m.log2) = 52 by omega, show (2:Nat) ^ 52 = 4503599627370496 by rfl] at b1
  rw [← Nat.pow_add, show m.log2 + 1 + (52 - m.log2) = 53 by omega, show (2:Nat) ^ 53 = 9007199254740992 by rfl] at b2
  have he : ex (rungOf m) = m.log2 + 1022 := by
    unfold rungOf ex
    generalize m * 2 ^ (52 - m.log2) = k at *
    omega
  refine ⟨he, ?_, by omega⟩
  unfold mg; rw [he]; unfold rungOf; omega

theorem rung_just {m : Nat} (h0 : m ≠ 0) (h : m < 9007199254740992) : Just (rungOf m) m ∧ rungOf m < 9218868437227405312 ∧ 0 < rungOf m := by
  obtain ⟨h1, h2, h3⟩ := rung_parts h0 h
  refine ⟨?_, ?_, ?_⟩
  · unfold Just; rw [h1, h2]
    rw [show 1074 - (m.log2 + 1022) = 52 - m.log2 by omega, show m.log2 + 1022 - 1074 = 0 by omega, Nat.pow_zero, Nat.mul_one]
  · have e := ex_mg (rungOf m)
    have := mg_lt (rungOf m)
    rw [h1] at e; omega
  · have e := ex_mg (rungOf m)
    rw [h1] at e; omega

/-- Where mag times two to the place is a whole number of at most 53 binary digits, its rung is the nearest. -/
theorem nearest_int (neg : Bool) (mag : Nat) (place : Int) (m a b : Nat) (h0 : m ≠ 0) (hm : m < 9007199254740992)
    (h : mag * 2 ^ a = m * 2 ^ b) (hp : place + b = a) : double.nearest neg mag place = double.word neg (rungOf m) := by
  obtain ⟨h1, h2, h3⟩ := rung_parts h0 hm
  obtain ⟨_, j2, j3⟩ := rung_just h0 hm
  refine nearest_exact neg mag place (rungOf m) (a + (52 - m.log2)) b j2 j3 ?_ ?_
  · rw [Nat.pow_add, ← Nat.mul_assoc, h, h2, Nat.mul_assoc, Nat.mul_assoc, Nat.mul_comm (2 ^ b)]
  · rw [h1]; omega

end Go.Proofs.Ytalopkllldnipaa
