/- The walk of Whole: the whole number that a real one is. No statement of the seat is proved here. -/
import Derived.Test.YtiijfmldmggccaaComp
namespace Go.Proofs.Ytiijfmldmggccaa
open Go.RowKit

/-- A real number within int64; cut towards nought; is it whole; the whole number. -/
def inR (b : Nat) : Bool := !nan b && decide (-4890909195324358656 ≤ key b ∧ key b < 4890909195324358656)
def wcut (b : Nat) : Int := sg (b / 9223372036854775808 % 2 == 1) (whole (b % 9223372036854775808))
def whK (b : Nat) : Bool := inR b && (FloatKind.f64.format.order (floatOfInt .f64 (wcut b)) b == some Ordering.eq)
def whN (b : Nat) : Int := if whK b = true then wcut b else 0

theorem inR_cut {b : Nat} (hb : b < 18446744073709551616) (h : inR b = true) : floatToIntVal .f64 b .i64 = some (wcut b) ∧ -9223372036854775808 ≤ wcut b ∧ wcut b < 9223372036854775808 := by
  simp only [inR, Bool.and_eq_true, Bool.not_eq_true', decide_eq_true_eq] at h
  obtain ⟨n, h1, h2⟩ := h
  have hr : b % 9223372036854775808 < 9218868437227405312 := by
    unfold key at h1 h2; split at h1 <;> omega
  have hb2 : -9223372036854775808 ≤ wcut b ∧ wcut b < 9223372036854775808 := by
    unfold wcut
    by_cases c : b < 9223372036854775808
    · rw [Nat.div_eq_of_lt c, Nat.mod_eq_of_lt c]
      have := whole_lt (r := b) (by unfold key at h2; rw [if_pos c] at h2; omega)
      simp [sg]; omega
    · have e : b / 9223372036854775808 = 1 := by omega
      rw [e]
      by_cases d : b % 9223372036854775808 = 4890909195324358656
      · rw [d, whole_bound]; simp [sg]
      · have := whole_lt (r := b % 9223372036854775808) (by unfold key at h1; rw [if_neg c] at h1; omega)
        simp [sg]; omega
  refine ⟨?_, hb2⟩
  unfold floatToIntVal
  rw [show FloatKind.f64.decode b = Ieee.double.read b from rfl, toInt_eq hr]
  show (if IntKind.i64.min ≤ wcut b ∧ wcut b ≤ IntKind.i64.max then some (wcut b) else none) = some (wcut b)
  rw [if_pos]
  simp [IntKind.min, IntKind.max, IntKind.signed, IntKind.bits]; omega

@[go_sem] theorem run_cut (b : Nat) (W : World) (hb : b < 18446744073709551616) (h : inR b = true) : (convert 32 2 (.float .f64 b)).run Try.prog W = .ok (.int .i64 (wcut b)) W :=
  run_convert_float_int W 32 2 .f64 .i64 b (wcut b) (by kernel_rfl) (by kernel_rfl) (inR_cut hb h).1

section
variable (b : Nat) (W : World)
set_option maxHeartbeats 400000 in
theorem word_whole (hb : b < 18446744073709551616) : Calls Try.prog 20 #[.float .f64 b] W fun e w' => e = .returned (.tuple #[.int .i64 (whN b), .bool (whK b)]) ∧ w' = W := by
  go_enter Try.func20, Try.ntmps20
  cases n : nan b
  · have f1 := ord_self_num hb n
    have g2 := ord_lt hb (show 14114281232179134464 < 18446744073709551616 by omega) n (by decide)
    have g3 := ord_gt hb (show 4890909195324358656 < 18446744073709551616 by omega) n (by decide)
    have g4 := ord_eq hb (show 4890909195324358656 < 18446744073709551616 by omega) n (by decide)
    rw [show key 14114281232179134464 = -4890909195324358656 from by decide] at g2
    rw [show key 4890909195324358656 = 4890909195324358656 from by decide] at g3 g4
    by_cases c1 : key b < -4890909195324358656
    · have f2 : (FloatKind.f64.format.order b 14114281232179134464 == some Ordering.lt) = true := by rw [g2]; simp [c1]
      have k : whK b = false := by unfold whK inR; rw [n]; simp; omega
      clear g2 g3 g4
      go_wp2_with fail
      go_ret2
      exact ret2_of (by unfold whN; rw [k]; rfl) (by first | rfl | (rw [k]; rfl))
    · have f2 : (FloatKind.f64.format.order b 14114281232179134464 == some Ordering.lt) = false := by rw [g2]; simp; omega
      by_cases c2 : key b < 4890909195324358656
      · have f3 : (FloatKind.f64.format.order b 4890909195324358656 == some Ordering.gt || FloatKind.f64.format.order b 4890909195324358656 == some Ordering.eq) = false := by rw [g3, g4]; simp; omega
        have hi : inR b = true := by unfold inR; rw [n]; simp; omega
        clear g2 g3 g4
        cases e : (FloatKind.f64.format.order (floatOfInt .f64 (wcut b)) b == some Ordering.eq)
        · have k : whK b = false := by unfold whK; rw [hi, e]; rfl
          have e' : (FloatKind.f64.format.order (floatOfInt .f64 (wcut b)) b != some Ordering.eq) = true := by unfold bne; rw [e]; rfl
          go_wp2_with fail
          go_ret2
          exact ret2_of (by unfold whN; rw [k]; rfl) (by first | rfl | (rw [k]; rfl))
        · have k : whK b = true := by unfold whK; rw [hi, e]; rfl
          have e' : (FloatKind.f64.format.order (floatOfInt .f64 (wcut b)) b != some Ordering.eq) = false := by unfold bne; rw [e]; rfl
          go_wp2_with fail
          go_ret2
          exact ret2_of (by unfold whN; rw [k]; rfl) (by first | rfl | (rw [k]; rfl))
      · have f3 : (FloatKind.f64.format.order b 4890909195324358656 == some Ordering.gt || FloatKind.f64.format.order b 4890909195324358656 == some Ordering.eq) = true := by rw [g3, g4]; simp; omega
        have k : whK b = false := by unfold whK inR; rw [n]; simp; omega
        clear g2 g3 g4
        go_wp2_with fail
        go_ret2
        exact ret2_of (by unfold whN; rw [k]; rfl) (by first | rfl | (rw [k]; rfl))
  · have f1 := ord_self_nan n
    have k : whK b = false := by unfold whK inR; rw [n]; rfl
    go_wp2_with fail
    go_ret2
    exact ret2_of (by unfold whN; rw [k]; rfl) (by first | rfl | (rw [k]; rfl))
end
end Go.Proofs.Ytiijfmldmggccaa
