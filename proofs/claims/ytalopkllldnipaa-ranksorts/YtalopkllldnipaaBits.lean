
/- What turning a word's highest bit, the highest bits of its halves, or all of its bits comes to. -/
import Derived.Laws.Bits64
import Derived.Laws.Bits64b
namespace Go.Proofs.Ytalopkllldnipaa

theorem xtop (n x : Nat) (h : x < 2 ^ (n + 1)) : x ^^^ 2 ^ n = if x < 2 ^ n then x + 2 ^ n else x - 2 ^ n := by
  have hm : (x ^^^ 2 ^ n) % 2 ^ n = x % 2 ^ n := by rw [Nat.xor_mod_two_pow]; simp
  have hd : (x ^^^ 2 ^ n) / 2 ^ n = (x / 2 ^ n) ^^^ 1 := by rw [Nat.xor_div_two_pow, Nat.div_self (Nat.two_pow_pos n)]
  have hp : 0 < 2 ^ n := Nat.two_pow_pos n
  have e := Nat.div_add_mod (x ^^^ 2 ^ n) (2 ^ n)
  have e2 := Nat.div_add_mod x (2 ^ n)
  rw [hm, hd] at e
  by_cases c : x < 2 ^ n
  · rw [if_pos c]
    rw [Nat.div_eq_of_lt c] at e
    rw [Nat.mod_eq_of_lt c] at e
    simp at e; omega
  · rw [if_neg c]
    have h1 : x / 2 ^ n = 1 := by
      have : x < 2 * 2 ^ n := by rw [Nat.pow_succ] at h; omega
      have a1 : x / 2 ^ n < 2 := Nat.div_lt_of_lt_mul (by omega)
      have a2 : 1 ≤ x / 2 ^ n := (Nat.one_le_div_iff hp).2 (by omega)
      omega
    rw [h1] at e e2
    simp at e e2; omega

theorem xall (x : Nat) (h : x < 18446744073709551616) : x ^^^ 18446744073709551615 = 18446744073709551615 - x := by
  have e : (BitVec.ofNat 64 x ^^^ BitVec.allOnes 64) = ~~~ (BitVec.ofNat 64 x) := BitVec.xor_allOnes
  have t := congrArg BitVec.toNat e
  simp only [BitVec.toNat_xor, BitVec.toNat_ofNat, BitVec.toNat_not, BitVec.toNat_allOnes] at t
  rw [Nat.mod_eq_of_lt (by omega)] at t
  simpa using t

theorem xhalves (x : Nat) (h : x < 18446744073709551616) : x ^^^ 9223372039002259456 = ((x / 4294967296 + 2147483648) % 4294967296) * 4294967296 + (x % 4294967296 + 2147483648) % 4294967296 := by
  have hm : (x ^^^ 9223372039002259456) % 2 ^ 32 = (x % 4294967296) ^^^ 2 ^ 31 := by rw [Nat.xor_mod_two_pow]
  have hd : (x ^^^ 9223372039002259456) / 2 ^ 32 = (x / 4294967296) ^^^ 2 ^ 31 := by rw [Nat.xor_div_two_pow]
  rw [xtop 31 _ (by omega)] at hm hd
  have e := Nat.div_add_mod (x ^^^ 9223372039002259456) (2 ^ 32)
  rw [hm, hd] at e
  rw [← e]
  split <;> split <;> omega

theorem xhigh64 (x : Int) (h0 : 0 ≤ x) (h1 : x < 18446744073709551616) : bits .xor .u64 x 9223372036854775808 = if x < 9223372036854775808 then x + 9223372036854775808 else x - 9223372036854775808 := by
  obtain ⟨n, rfl⟩ := Int.eq_ofNat_of_zero_le h0
  rw [show (9223372036854775808 : Int) = ((9223372036854775808 : Nat) : Int) by rfl, bits_xor_u64_nat _ _ (by omega) (by omega), show (9223372036854775808 : Nat) = 2 ^ 63 by rfl, xtop 63 n (by omega)]
  split <;> split <;> omega

theorem xall64 (x : Int) (h0 : 0 ≤ x) (h1 : x < 18446744073709551616) : bits .xor .u64 x 18446744073709551615 = 18446744073709551615 - x := by
  obtain ⟨n, rfl⟩ := Int.eq_ofNat_of_zero_le h0
  rw [show (18446744073709551615 : Int) = ((18446744073709551615 : Nat) : Int) by rfl, bits_xor_u64_nat _ _ (by omega) (by omega), xall n (by omega)]
  omega

theorem xhalves64 (x : Int) (h0 : 0 ≤ x) (h1 : x < 18446744073709551616) : bits .xor .u64 x 9223372039002259456 = ((x / 4294967296 + 2147483648) % 4294967296) * 4294967296 + (x % 4294967296 + 2147483648) % 4294967296 := by
  obtain ⟨n, rfl⟩ := Int.eq_ofNat_of_zero_le h0
  rw [show (9223372039002259456 : Int) = ((9223372039002259456 : Nat) : Int) by rfl, bits_xor_u64_nat _ _ (by omega) (by omega), xhalves n (by omega)]
  omega

theorem or64 (a b : Int) (a0 : 0 ≤ a) (a1 : a < 4294967296) (b0 : 0 ≤ b) (b1 : b < 4294967296) : bits .or .u64 (a * 4294967296) b = a * 4294967296 + b := by
  obtain ⟨n, rfl⟩ := Int.eq_ofNat_of_zero_le a0
  obtain ⟨m, rfl⟩ := Int.eq_ofNat_of_zero_le b0
  rw [show (n : Int) * 4294967296 = ((n * 4294967296 : Nat) : Int) by omega, bits_or_u64_nat _ _ (by omega) (by omega)]
  have e := Nat.shiftLeft_add_eq_or_of_lt (i := 32) (show m < 2 ^ 32 by omega) n
  rw [Nat.shiftLeft_eq] at e
  rw [show (4294967296 : Nat) = 2 ^ 32 by rfl, ← e]
  omega

end Go.Proofs.Ytalopkllldnipaa
