/- Of two small real numbers, given by their bits, the model's order is the order of their places: sign and lower bits. -/
import Derived.Test.YtiijfmldmggccaaMath
namespace Go.Proofs.Ytiijfmldmggccaa
open Ieee

/-- Is it the bits of no number? -/
def nan32 (x : Nat) : Bool := decide (2139095040 < x % 2147483648)

/-- The place of a real number among them: both noughts at 0. -/
def key32 (x : Nat) : Int := if x < 2147483648 then (x : Int) else 2147483648 - (x : Int)

def ex32 (r : Nat) : Nat := r / 8388608 - 1
def mg32 (r : Nat) : Nat := r - ex32 r * 8388608

theorem sw32 : single.signWeight = 2147483648 := by decide
theorem bn32 : single.binade = 8388608 := by decide
theorem ir32 : single.infRung = 2139095040 := by decide
theorem lp32 : single.leastPlace = -149 := by decide

theorem mg_low32 {r : Nat} (h : r < 8388608) : mg32 r = r ∧ ex32 r = 0 := by
  have h0 : r / 8388608 = 0 := Nat.div_eq_of_lt h
  simp [mg32, ex32, h0]

theorem mg_high32 {r : Nat} (h : ¬ r < 8388608) : mg32 r = 8388608 + r % 8388608 := by
  simp only [mg32, ex32]; omega

theorem mg_lt32 (r : Nat) : mg32 r < 16777216 := by
  simp only [mg32, ex32]; omega

theorem mg_ge32 {r : Nat} (h : ex32 r ≠ 0) : 8388608 ≤ mg32 r := by
  simp only [mg32, ex32] at *; omega

theorem read_num32 {x : Nat} (h : x % 2147483648 < 2139095040) :
    single.read x = .number (x / 2147483648 % 2 == 1) (mg32 (x % 2147483648)) (-149 + (ex32 (x % 2147483648) : Nat)) := by
  simp only [Format.read, sw32, bn32, ir32, lp32]
  by_cases hl : x % 2147483648 < 8388608
  · rw [if_pos hl, (mg_low32 hl).1, (mg_low32 hl).2]; simp
  · rw [if_neg hl, if_pos h, mg_high32 hl]; rfl

theorem read_inf32 {x : Nat} (h : x % 2147483648 = 2139095040) :
    single.read x = .infinity (x / 2147483648 % 2 == 1) := by
  simp [Format.read, sw32, bn32, ir32, h]

theorem read_nan32 {x : Nat} (h : 2139095040 < x % 2147483648) :
    ∃ s t, single.read x = .nan s t := by
  refine ⟨(x / 2147483648 % 2 == 1), x % 2147483648 - 2139095040, ?_⟩
  simp only [Format.read, sw32, bn32, ir32]
  rw [if_neg (by omega), if_neg (by omega), if_neg (by omega)]

/-- The number as a multiple of the least one. -/
def size32 (r : Nat) : Nat := mg32 r * 2 ^ ex32 r

theorem size_lt32 {r s : Nat} (h : r < s) : size32 r < size32 s := by
  unfold size32
  rcases Nat.lt_trichotomy (ex32 r) (ex32 s) with he | he | he
  · have h1 : mg32 r * 2 ^ ex32 r < 16777216 * 2 ^ ex32 r := Nat.mul_lt_mul_of_pos_right (mg_lt32 r) (Nat.two_pow_pos _)
    have h2 : (16777216 : Nat) * 2 ^ ex32 r = 8388608 * 2 ^ (ex32 r + 1) := by rw [Nat.pow_succ]; omega
    have h3 : 8388608 * 2 ^ (ex32 r + 1) ≤ 8388608 * 2 ^ ex32 s := Nat.mul_le_mul_left _ (Nat.pow_le_pow_right (by decide) he)
    have h4 : 8388608 * 2 ^ ex32 s ≤ mg32 s * 2 ^ ex32 s := Nat.mul_le_mul_right _ (mg_ge32 (by omega))
    omega
  · rw [he]
    refine Nat.mul_lt_mul_of_pos_right ?_ (Nat.two_pow_pos _)
    simp only [mg32]; rw [he]
    have : ex32 s * 8388608 ≤ r := by rw [← he]; simp only [ex32]; omega
    omega
  · exfalso; simp only [ex32] at he; omega

theorem size_inj_lt32 (r s : Nat) : (size32 r < size32 s) ↔ r < s := by
  constructor
  · intro h
    rcases Nat.lt_trichotomy r s with h1 | h1 | h1
    · exact h1
    · subst h1; omega
    · have := size_lt32 h1; omega
  · exact size_lt32

theorem size_inj32 (r s : Nat) : (size32 r = size32 s) ↔ r = s := by
  constructor
  · intro h
    rcases Nat.lt_trichotomy r s with h1 | h1 | h1
    · have := size_lt32 h1; omega
    · exact h1
    · have := size_lt32 h1; omega
  · intro h; rw [h]

theorem order_num32 {s t : Bool} {r q : Nat} :
    Datum.order (.number s (mg32 r) (-149 + (ex32 r : Nat))) (.number t (mg32 q) (-149 + (ex32 q : Nat))) = some (compare (sg s (size32 r)) (sg t (size32 q))) := by
  simp only [Datum.order, signed_eq]
  have hm : min ((-149 : Int) + (ex32 r : Nat)) (-149 + (ex32 q : Nat)) = -149 + (min (ex32 r) (ex32 q) : Nat) := by omega
  rw [hm]
  have h1 : ((-149 : Int) + (ex32 r : Nat) - (-149 + (min (ex32 r) (ex32 q) : Nat))).toNat = ex32 r - min (ex32 r) (ex32 q) := by omega
  have h2 : ((-149 : Int) + (ex32 q : Nat) - (-149 + (min (ex32 r) (ex32 q) : Nat))).toNat = ex32 q - min (ex32 r) (ex32 q) := by omega
  rw [h1, h2, ← cmp_scale _ _ (2 ^ min (ex32 r) (ex32 q)) (Nat.two_pow_pos _), ← sg_mul, ← sg_mul, Nat.mul_assoc, Nat.mul_assoc, ← Nat.pow_add, ← Nat.pow_add]
  rw [show ex32 r - min (ex32 r) (ex32 q) + min (ex32 r) (ex32 q) = ex32 r by omega, show ex32 q - min (ex32 r) (ex32 q) + min (ex32 r) (ex32 q) = ex32 q by omega]
  rfl

theorem cmp_size32 (s t : Bool) (r q : Nat) : compare (sg s (size32 r)) (sg t (size32 q)) = compare (sg s r) (sg t q) := by
  have z : size32 0 = 0 := by decide
  have a1 := size_inj_lt32 r q
  have a2 := size_inj_lt32 q r
  have a3 := size_inj32 r q
  have a4 := size_inj32 r 0
  have a5 := size_inj32 q 0
  rw [z] at a4 a5
  simp only [cmp_int]
  have e1 : (sg s (size32 r) < sg t (size32 q)) ↔ sg s r < sg t q := by
    cases s <;> cases t <;> simp only [sg] <;> simp <;> omega
  have e2 : (sg s (size32 r) = sg t (size32 q)) ↔ sg s r = sg t q := by
    cases s <;> cases t <;> simp only [sg] <;> simp <;> omega
  simp only [e1, e2]

theorem sg_key32 {x : Nat} (hx : x < 4294967296) : sg (x / 2147483648 % 2 == 1) (x % 2147483648) = key32 x := by
  unfold key32
  by_cases h : x < 2147483648
  · rw [if_pos h, Nat.div_eq_of_lt h, Nat.mod_eq_of_lt h]; rfl
  · rw [if_neg h]
    have h1 : x / 2147483648 = 1 := by omega
    rw [h1]
    simp only [sg]
    simp
    omega

theorem order_key32 {x y : Nat} (hx : x < 4294967296) (hy : y < 4294967296) (nx : nan32 x = false) (ny : nan32 y = false) :
    single.order x y = some (compare (key32 x) (key32 y)) := by
  simp only [nan32, decide_eq_false_iff_not, Nat.not_lt] at nx ny
  unfold Format.order
  rw [← sg_key32 hx, ← sg_key32 hy]
  generalize hs : (x / 2147483648 % 2 == 1) = s
  generalize ht : (y / 2147483648 % 2 == 1) = t
  by_cases ix : x % 2147483648 = 2139095040
  · by_cases iy : y % 2147483648 = 2139095040
    · rw [read_inf32 ix, read_inf32 iy, hs, ht, ix, iy]
      cases s <;> cases t <;> rfl
    · rw [read_inf32 ix, read_num32 (by omega), hs, ht, ix]
      generalize y % 2147483648 = q at *
      cases s <;> cases t <;> simp only [Datum.order, sg, cmp_int] <;> simp <;> (repeat' split) <;> first | rfl | omega
  · by_cases iy : y % 2147483648 = 2139095040
    · rw [read_inf32 iy, read_num32 (by omega), hs, ht, iy]
      generalize x % 2147483648 = q at *
      cases s <;> cases t <;> simp only [Datum.order, sg, cmp_int] <;> simp <;> (repeat' split) <;> first | rfl | omega
    · rw [read_num32 (x := x) (by omega), read_num32 (x := y) (by omega), order_num32, cmp_size32, hs, ht]

theorem order_nan_left32 {x y : Nat} (nx : nan32 x = true) : single.order x y = none := by
  simp only [nan32, decide_eq_true_eq] at nx
  obtain ⟨s, t, h⟩ := read_nan32 nx
  unfold Format.order; rw [h]; rfl

theorem order_nan_right32 {x y : Nat} (ny : nan32 y = true) : single.order x y = none := by
  simp only [nan32, decide_eq_true_eq] at ny
  obtain ⟨s, t, h⟩ := read_nan32 ny
  unfold Format.order; rw [h]; cases single.read x <;> rfl

end Go.Proofs.Ytiijfmldmggccaa
