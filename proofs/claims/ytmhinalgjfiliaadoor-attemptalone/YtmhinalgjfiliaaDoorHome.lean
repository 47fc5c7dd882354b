
/-
  Walks of the program's home of a key, of math/bits.TrailingZeros64 on a power of two, and of Home. No statement of the seat is proved here.
-/
import Derived.Test.YtmhinalgjfiliaaDoorProg
import Derived.Test.YtmhinalgjfiliaaDoorPure
import Derived.WalkKit
import Derived.WalkSpells
import Derived.WalkLawsBesides
namespace Go.Proofs.YtmhinalgjfiliaaDoor
open Go.RowKit

/-- The library's table, as its text has it. -/
def tzTab : List Int := [0, 1, 56, 2, 57, 49, 28, 3, 61, 58, 42, 50, 38, 29, 17, 4, 62, 47, 59, 36, 45, 43, 51, 22, 53, 39, 33, 30, 24, 18, 12, 5, 63, 55, 48, 27, 60, 41, 37, 16, 46, 35, 44, 21, 52, 32, 23, 11, 54, 26, 40, 15, 34, 20, 31, 10, 25, 14, 19, 9, 13, 8, 7, 6]
/-- The world holds it. -/
def Tz (w : World) : Prop := ∀ i, i < 64 → w.cell? ⟨0, i, none⟩ = some (.int .u8 (tzTab[i]?.getD 0))

set_option maxHeartbeats 400000 in
theorem tz_at (x p : Int) (j : Nat) (w : World) (hx : (x == 0) = false) (hj : j < 64) (hp : 0 ≤ p ∧ p < 256)
    (he : IntKind.u64.wrap (bits BinOp.and IntKind.u64 x (IntKind.u64.wrap (-x)) * 285870213051353865) / 288230376151711744 = (j : Int)) (hc : w.cell? ⟨0, j, none⟩ = some (.int .u8 p)) :
    Calls Tryd.prog 87 #[.int .u64 x] w fun e w' => e = .returned (.int .i64 p) ∧ w' = w := by
  go_enter Tryd.func87, Tryd.ntmps87
  go_wp2_with fail
  go_ret
  exact ⟨rfl, rfl⟩

/-- The place in the table that a power of two leads to. -/
def tzAt (p : Nat) : Nat := ((2 ^ p * 285870213051353865) % 2 ^ 64 / 2 ^ 58)
theorem tz_all : ∀ p, p < 63 → tzAt p < 64 ∧ tzTab[tzAt p]?.getD 0 = (p : Int) ∧ IntKind.u64.wrap (bits BinOp.and IntKind.u64 (2 ^ p) (IntKind.u64.wrap (-(2 ^ p))) * 285870213051353865) / 288230376151711744 = (tzAt p : Int) := by
  decide +kernel
theorem tz_pow (p : Nat) (h : p < 63) (w : World) (hw : Tz w) : Calls Tryd.prog 87 #[.int .u64 (2 ^ p)] w fun e w' => e = .returned (.int .i64 p) ∧ w' = w := by
  obtain ⟨h1, h2, h3⟩ := tz_all p h
  have hpos : (0 : Int) < 2 ^ p := Int.pow_pos (by decide)
  exact tz_at (2 ^ p) p (tzAt p) w (by simp; omega) h1 (by omega) h3 (by rw [hw _ h1, h2])

theorem wrap_pow : ∀ p, p < 63 → IntKind.u64.wrap (2 ^ p) = 2 ^ p := by decide +kernel
/-- A key's home among 2^p slots. -/
def homeP (p : Nat) (k : Int) : Nat := ((k * 11400714819323198485) % 18446744073709551616 / 2 ^ (64 - p)).toNat

theorem pow_split {p : Nat} (hp : p < 63) : (2 : Int) ^ (64 - p) * 2 ^ p = 18446744073709551616 := by
  rw [← Int.pow_add, Nat.sub_add_cancel (by omega)]
  rfl
theorem homeP_eq (p : Nat) (k : Int) : ((homeP p k : Nat) : Int) = (k * 11400714819323198485) % 18446744073709551616 / 2 ^ (64 - p) := by
  unfold homeP
  rw [Int.toNat_of_nonneg]
  exact Int.ediv_nonneg (Int.emod_nonneg _ (by decide)) (Int.le_of_lt (Int.pow_pos (by decide)))
theorem homeP_lt (p : Nat) (hp : p < 63) (k : Int) : homeP p k < 2 ^ p := by
  have h : ((homeP p k : Nat) : Int) < ((2 ^ p : Nat) : Int) := by
    rw [homeP_eq, Int.natCast_pow]
    refine Int.ediv_lt_of_lt_mul (Int.pow_pos (by decide)) ?_
    rw [show ((2 : Nat) : Int) = 2 from rfl, Int.mul_comm (2 ^ p), pow_split hp]
    exact Int.emod_lt_of_pos _ (by decide)
  omega
theorem pow_le_big {p : Nat} (hp : p < 63) : (2 : Int) ^ p ≤ 4611686018427387904 := by
  have : (2 : Nat) ^ p ≤ 2 ^ 62 := Nat.pow_le_pow_right (by decide) (by omega)
  have h2 : ((2 ^ p : Nat) : Int) ≤ ((2 ^ 62 : Nat) : Int) := by omega
  rw [Int.natCast_pow] at h2
  exact h2
theorem homeP_big (p : Nat) (hp : p < 63) (k : Int) : (0 : Int) ≤ homeP p k ∧ (homeP p k : Int) < 4611686018427387904 := by
  have h1 : ((homeP p k : Nat) : Int) < ((2 ^ p : Nat) : Int) := by have := homeP_lt p hp k; omega
  rw [Int.natCast_pow] at h1
  have h2 := pow_le_big hp
  have h3 : ((2 : Nat) : Int) ^ p = 2 ^ p := rfl
  omega
theorem home_form (p : Nat) (hp : p < 63) (k : Int) : wrap64 (IntKind.u64.wrap (k * 11400714819323198485) / 2 ^ (64 - p)) = homeP p k := by
  rw [IntKind.wrap_u64, ← homeP_eq]
  have := homeP_big p hp k
  unfold wrap64
  omega

set_option maxHeartbeats 400000 in
theorem home_at (k : Int) (p : Nat) (n : Int) (h3 : 3 ≤ p) (hp : p < 63) (hn : n = 2 ^ p) (w : World) (hw : Tz w) :
    Calls Tryd.prog 81 #[.int .u64 k, .int .i64 n] w fun e w' => e = .returned (.int .i64 (homeP p k)) ∧ w' = w := by
  have hwr := wrap_pow p hp
  have hf := home_form p hp k
  go_enter Tryd.func81, Tryd.ntmps81
  go_wp2_with fail
  refine (tz_pow p hp _ hw).mono ?_
  rintro e w' ⟨rfl, rfl⟩
  go_wp2_with fail
  go_ret
  refine ⟨?_, rfl⟩
  rw [← hf]
  rfl

/-- A mask of ones below 2^p. -/
theorem and_mask (p : Nat) (hp : p < 63) (n : Int) : bits .and .i64 n (2 ^ p - 1) = n % 2 ^ p := by
  have h127 : (BitVec.ofInt 64 (2 ^ p - 1)).toNat = 2 ^ p - 1 := by
    have h1 : (2 : Int) ^ p - 1 = ((2 ^ p - 1 : Nat) : Int) := by rw [Int.natCast_sub (Nat.two_pow_pos p)]; simp
    have h2 : (2 : Nat) ^ p ≤ 2 ^ 62 := Nat.pow_le_pow_right (by decide) (by omega)
    rw [h1, BitVec.ofInt_natCast, BitVec.toNat_ofNat]
    exact Nat.mod_eq_of_lt (by omega)
  have key : (BitVec.ofInt 64 n &&& BitVec.ofInt 64 (2 ^ p - 1)).toNat = (n % ((2 ^ 64 : Nat) : Int)).toNat % 2 ^ p := by
    rw [BitVec.toNat_and, BitVec.toNat_ofInt, h127, Nat.and_two_pow_sub_one_eq_mod]
  show IntKind.i64.wrap ((BitVec.ofInt 64 n &&& BitVec.ofInt 64 (2 ^ p - 1)).toNat : Nat) = n % 2 ^ p
  have hb := pow_le_big hp
  have h0 : (0 : Int) < 2 ^ p := Int.pow_pos (by decide)
  have e : ((((n % ((2 ^ 64 : Nat) : Int)).toNat % 2 ^ p : Nat)) : Int) = n % 2 ^ p := by
    rw [Int.natCast_emod, Int.toNat_of_nonneg (Int.emod_nonneg _ (by decide)), Int.natCast_pow]
    exact Int.emod_emod_of_dvd _ ⟨2 ^ (64 - p), by rw [Int.natCast_pow, show ((2 : Nat) : Int) = 2 from rfl, ← Int.pow_add, Nat.add_sub_of_le (by omega)]⟩
  rw [key, IntKind.wrap_i64, e]
  have h1 := Int.emod_nonneg n (show (2 : Int) ^ p ≠ 0 by omega)
  have h2 := Int.emod_lt_of_pos n h0
  omega

/-- A number that is no power of two, and the one below it, share a bit. -/
theorem and_pred (s : Nat) (hs : 0 < s) (hz : s &&& (s - 1) = 0) : ∃ p, s = 2 ^ p := by
  refine ⟨s.log2, ?_⟩
  have h1 := Nat.log2_self_le (n := s) (by omega)
  have h2 := Nat.lt_log2_self (n := s)
  apply Classical.byContradiction
  intro hne
  have hb : ∀ x, 2 ^ s.log2 ≤ x → x < 2 ^ (s.log2 + 1) → x.testBit s.log2 = true := by
    intro x hx1 hx2
    rw [Nat.testBit_eq_decide_div_mod_eq]
    have : x / 2 ^ s.log2 = 1 := by
      rw [Nat.pow_succ] at hx2
      exact Nat.div_eq_of_lt_le (by omega) (by omega)
    rw [this]
    rfl
  have h3 := Nat.testBit_and s (s - 1) s.log2
  rw [hz, hb s h1 h2, hb (s - 1) (by omega) (by omega)] at h3
  simp at h3

theorem pow_ge8 {p : Nat} (h3 : 3 ≤ p) : (8 : Int) ≤ 2 ^ p := by
  have : (2 : Nat) ^ 3 ≤ 2 ^ p := Nat.pow_le_pow_right (by decide) h3
  have h2 : ((2 ^ 3 : Nat) : Int) ≤ ((2 ^ p : Nat) : Int) := by omega
  rw [Int.natCast_pow, Int.natCast_pow] at h2
  exact h2

theorem home_no (n : Int) (hb : n < 9223372036854775808) (h8 : 8 ≤ n) (hn : ∀ p, 3 ≤ p → p < 63 → n ≠ 2 ^ p) : (bits .and .i64 n (n - 1) != 0) = true := by
  obtain ⟨s, rfl⟩ := Int.eq_ofNat_of_zero_le (show 0 ≤ n by omega)
  have e : ((s : Int) - 1) = ((s - 1 : Nat) : Int) := by omega
  rw [e, (bits_nat .i64 63 (by decide) (fun n h0 h1 => by rw [IntKind.wrap_i64]; omega) s (s - 1) (by omega) (by omega)).1]
  have hz : s &&& (s - 1) ≠ 0 := by
    intro hz
    obtain ⟨p, hp⟩ := and_pred s (by omega) hz
    have h3 : 3 ≤ p := by
      apply Classical.byContradiction
      intro hc
      have : (2 : Nat) ^ p ≤ 2 ^ 2 := Nat.pow_le_pow_right (by decide) (by omega)
      omega
    have h63 : p < 63 := by
      apply Classical.byContradiction
      intro hc
      have : (2 : Nat) ^ 63 ≤ 2 ^ p := Nat.pow_le_pow_right (by decide) (by omega)
      omega
    exact hn p h3 h63 (by rw [hp, Int.natCast_pow]; rfl)
  have : (((s &&& (s - 1) : Nat) : Int)) ≠ 0 := by omega
  simpa using this

set_option maxHeartbeats 400000 in
theorem num_any (n : Int) (w : World) : Calls Tryd.prog 8 #[.int .i64 n] w fun e w' => e = .returned (.int .i64 n) ∧ w' = w := by
  go_enter Tryd.func8, Tryd.ntmps8
  go_wp2
  go_ret
  exact ⟨rfl, rfl⟩

theorem pow_le_half {p : Nat} (hp : p < 62) : (2 : Int) ^ p ≤ 2305843009213693952 := by
  have := pow_le_big (p := p + 1) (by omega)
  rw [Int.pow_succ] at this
  omega
theorem pow_lt_pow {a b : Nat} (h : a < b) : (2 : Int) ^ a < 2 ^ b := by
  have : (2 : Nat) ^ a < 2 ^ b := Nat.pow_lt_pow_right (by decide) h
  have h2 : ((2 ^ a : Nat) : Int) < ((2 ^ b : Nat) : Int) := by omega
  rw [Int.natCast_pow, Int.natCast_pow] at h2
  exact h2

end Go.Proofs.YtmhinalgjfiliaaDoor
