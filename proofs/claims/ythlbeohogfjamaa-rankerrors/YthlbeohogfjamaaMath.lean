
/- Of two real numbers, given by their bits, the model's order is the order of their places: sign and lower bits. -/
import Ieee.Arith
namespace Go.Proofs.Ythlbeohogfjamaa
open Ieee

/-- Is it the bits of no number? -/
def nan (x : Nat) : Bool := decide (9218868437227405312 < x % 9223372036854775808)

/-- The place of a real number among them: both noughts at 0. -/
def key (x : Nat) : Int := if x < 9223372036854775808 then (x : Int) else 9223372036854775808 - (x : Int)

def ex (r : Nat) : Nat := r / 4503599627370496 - 1
def mg (r : Nat) : Nat := r - ex r * 4503599627370496

theorem sw : double.signWeight = 9223372036854775808 := by decide
theorem bn : double.binade = 4503599627370496 := by decide
theorem ir : double.infRung = 9218868437227405312 := by decide
theorem lp : double.leastPlace = -1074 := by decide

theorem mg_low {r : Nat} (h : r < 4503599627370496) : mg r = r ∧ ex r = 0 := by
  have h0 : r / 4503599627370496 = 0 := Nat.div_eq_of_lt h
  simp [mg, ex, h0]

theorem mg_high {r : Nat} (h : ¬ r < 4503599627370496) : mg r = 4503599627370496 + r % 4503599627370496 := by
  simp only [mg, ex]; omega

theorem mg_lt (r : Nat) : mg r < 9007199254740992 := by
  simp only [mg, ex]; omega

theorem mg_ge {r : Nat} (h : ex r ≠ 0) : 4503599627370496 ≤ mg r := by
  simp only [mg, ex] at *; omega

theorem read_num {x : Nat} (h : x % 9223372036854775808 < 9218868437227405312) :
    double.read x = .number (x / 9223372036854775808 % 2 == 1) (mg (x % 9223372036854775808)) (-1074 + (ex (x % 9223372036854775808) : Nat)) := by
  simp only [Format.read, sw, bn, ir, lp]
  by_cases hl : x % 9223372036854775808 < 4503599627370496
  · rw [if_pos hl, (mg_low hl).1, (mg_low hl).2]; simp
  · rw [if_neg hl, if_pos h, mg_high hl]; rfl

theorem read_inf {x : Nat} (h : x % 9223372036854775808 = 9218868437227405312) :
    double.read x = .infinity (x / 9223372036854775808 % 2 == 1) := by
  simp [Format.read, sw, bn, ir, h]

theorem read_nan {x : Nat} (h : 9218868437227405312 < x % 9223372036854775808) :
    ∃ s t, double.read x = .nan s t := by
  refine ⟨(x / 9223372036854775808 % 2 == 1), x % 9223372036854775808 - 9218868437227405312, ?_⟩
  simp only [Format.read, sw, bn, ir]
  rw [if_neg (by omega), if_neg (by omega), if_neg (by omega)]

/-- The number as a multiple of the least one. -/
def size (r : Nat) : Nat := mg r * 2 ^ ex r

theorem size_lt {r s : Nat} (h : r < s) : size r < size s := by
  unfold size
  rcases Nat.lt_trichotomy (ex r) (ex s) with he | he | he
  · have h1 : mg r * 2 ^ ex r < 9007199254740992 * 2 ^ ex r := Nat.mul_lt_mul_of_pos_right (mg_lt r) (Nat.two_pow_pos _)
    have h2 : (9007199254740992 : Nat) * 2 ^ ex r = 4503599627370496 * 2 ^ (ex r + 1) := by rw [Nat.pow_succ]; omega
    have h3 : 4503599627370496 * 2 ^ (ex r + 1) ≤ 4503599627370496 * 2 ^ ex s := Nat.mul_le_mul_left _ (Nat.pow_le_pow_right (by decide) he)
    have h4 : 4503599627370496 * 2 ^ ex s ≤ mg s * 2 ^ ex s := Nat.mul_le_mul_right _ (mg_ge (by omega))
    omega
  · rw [he]
    refine Nat.mul_lt_mul_of_pos_right ?_ (Nat.two_pow_pos _)
    simp only [mg]; rw [he]
    have : ex s * 4503599627370496 ≤ r := by rw [← he]; simp only [ex]; omega
    omega
  · exfalso; simp only [ex] at he; omega

theorem size_inj_lt (r s : Nat) : (size r < size s) ↔ r < s := by
  constructor
  · intro h
    rcases Nat.lt_trichotomy r s with h1 | h1 | h1
    · exact h1
    · subst h1; omega
    · have := size_lt h1; omega
  · exact size_lt

theorem size_inj (r s : Nat) : (size r = size s) ↔ r = s := by
  constructor
  · intro h
    rcases Nat.lt_trichotomy r s with h1 | h1 | h1
    · have := size_lt h1; omega
    · exact h1
    · have := size_lt h1; omega
  · intro h; rw [h]

def sg (b : Bool) (n : Nat) : Int := if b then -(n : Int) else (n : Int)

theorem signed_eq (b : Bool) (m k : Nat) : signed b m k = sg b (m * 2 ^ k) := by
  simp [signed, sg, Nat.shiftLeft_eq]

theorem sg_mul (b : Bool) (n k : Nat) : sg b (n * k) = sg b n * (k : Int) := by
  cases b <;> simp [sg, Int.neg_mul]

theorem cmp_int (a b : Int) : compare a b = if a < b then .lt else if a = b then .eq else .gt := rfl

theorem cmp_scale (a b : Int) (k : Nat) (hk : 0 < k) : compare (a * (k : Int)) (b * (k : Int)) = compare a b := by
  have hk' : (0 : Int) < (k : Int) := by omega
  have e1 : (a * (k : Int) < b * (k : Int)) ↔ a < b := by
    constructor
    · intro h; exact Int.lt_of_mul_lt_mul_right h (by omega)
    · intro h; exact Int.mul_lt_mul_of_pos_right h hk'
  have e2 : (a * (k : Int) = b * (k : Int)) ↔ a = b := by
    constructor
    · intro h; exact Int.eq_of_mul_eq_mul_right (by omega) h
    · intro h; rw [h]
  simp only [cmp_int, e1, e2]

theorem order_num {s t : Bool} {r q : Nat} :
    Datum.order (.number s (mg r) (-1074 + (ex r : Nat))) (.number t (mg q) (-1074 + (ex q : Nat))) = some (compare (sg s (size r)) (sg t (size q))) := by
  simp only [Datum.order, signed_eq]
  have hm : min ((-1074 : Int) + (ex r : Nat)) (-1074 + (ex q : Nat)) = -1074 + (min (ex r) (ex q) : Nat) := by omega
  rw [hm]
  have h1 : ((-1074 : Int) + (ex r : Nat) - (-1074 + (min (ex r) (ex q) : Nat))).toNat = ex r - min (ex r) (ex q) := by omega
  have h2 : ((-1074 : Int) + (ex q : Nat) - (-1074 + (min (ex r) (ex q) : Nat))).toNat = ex q - min (ex r) (ex q) := by omega
  rw [h1, h2, ← cmp_scale _ _ (2 ^ min (ex r) (ex q)) (Nat.two_pow_pos _), ← sg_mul, ← sg_mul, Nat.mul_assoc, Nat.mul_assoc, ← Nat.pow_add, ← Nat.pow_add]
  rw [show ex r - min (ex r) (ex q) + min (ex r) (ex q) = ex r by omega, show ex q - min (ex r) (ex q) + min (ex r) (ex q) = ex q by omega]
  rfl

theorem cmp_size (s t : Bool) (r q : Nat) : compare (sg s (size r)) (sg t (size q)) = compare (sg s r) (sg t q) := by
  have z : size 0 = 0 := by decide
  have a1 := size_inj_lt r q
  have a2 := size_inj_lt q r
  have a3 := size_inj r q
  have a4 := size_inj r 0
  have a5 := size_inj q 0
  rw [z] at a4 a5
  simp only [cmp_int]
  have e1 : (sg s (size r) < sg t (size q)) ↔ sg s r < sg t q := by
    cases s <;> cases t <;> simp only [sg] <;> simp <;> omega
  have e2 : (sg s (size r) = sg t (size q)) ↔ sg s r = sg t q := by
    cases s <;> cases t <;> simp only [sg] <;> simp <;> omega
  simp only [e1, e2]

theorem sg_key {x : Nat} (hx : x < 18446744073709551616) : sg (x / 9223372036854775808 % 2 == 1) (x % 9223372036854775808) = key x := by
  unfold key
  by_cases h : x < 9223372036854775808
  · rw [if_pos h, Nat.div_eq_of_lt h, Nat.mod_eq_of_lt h]; rfl
  · rw [if_neg h]
    have h1 : x / 9223372036854775808 = 1 := by omega
    rw [h1]
    simp only [sg]
    simp
    omega

theorem order_key {x y : Nat} (hx : x < 18446744073709551616) (hy : y < 18446744073709551616) (nx : nan x = false) (ny : nan y = false) :
    double.order x y = some (compare (key x) (key y)) := by
  simp only [nan, decide_eq_false_iff_not, Nat.not_lt] at nx ny
  unfold Format.order
  rw [← sg_key hx, ← sg_key hy]
  generalize hs : (x / 9223372036854775808 % 2 == 1) = s
  generalize ht : (y / 9223372036854775808 % 2 == 1) = t
  by_cases ix : x % 9223372036854775808 = 9218868437227405312
  · by_cases iy : y % 9223372036854775808 = 9218868437227405312
    · rw [read_inf ix, read_inf iy, hs, ht, ix, iy]
      cases s <;> cases t <;> rfl
    · rw [read_inf ix, read_num (by omega), hs, ht, ix]
      generalize y % 9223372036854775808 = q at *
      cases s <;> cases t <;> simp only [Datum.order, sg, cmp_int] <;> simp <;> (repeat' split) <;> first | rfl | omega
  · by_cases iy : y % 9223372036854775808 = 9218868437227405312
    · rw [read_inf iy, read_num (by omega), hs, ht, iy]
      generalize x % 9223372036854775808 = q at *
      cases s <;> cases t <;> simp only [Datum.order, sg, cmp_int] <;> simp <;> (repeat' split) <;> first | rfl | omega
    · rw [read_num (x := x) (by omega), read_num (x := y) (by omega), order_num, cmp_size, hs, ht]

theorem order_nan_left {x y : Nat} (nx : nan x = true) : double.order x y = none := by
  simp only [nan, decide_eq_true_eq] at nx
  obtain ⟨s, t, h⟩ := read_nan nx
  unfold Format.order; rw [h]; rfl

theorem order_nan_right {x y : Nat} (ny : nan y = true) : double.order x y = none := by
  simp only [nan, decide_eq_true_eq] at ny
  obtain ⟨s, t, h⟩ := read_nan ny
  unfold Format.order; rw [h]; cases double.read x <;> rfl

end Go.Proofs.Ythlbeohogfjamaa
