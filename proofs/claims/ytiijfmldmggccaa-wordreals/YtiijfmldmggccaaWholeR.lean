/- The walk of the document's Whole: as the word's. No statement of the seat is proved here. -/
import Derived.Test.YtiijfmldmggccaaWhole
import Derived.Test.YtiijfmldmggccaaCompR
namespace Go.Proofs.Ytiijfmldmggccaa
open Go.RowKit

section
variable (b : Nat) (W : World)
set_option maxHeartbeats 400000 in
theorem ref_whole (hb : b < 18446744073709551616) : Calls Try.prog 21 #[.float .f64 b] W fun e w' => e = .returned (.tuple #[.int .i64 (whN b), .bool (whK b)]) ∧ w' = W := by
  go_enter Try.func21, Try.ntmps21
  go_wp2_with fail
  refine (ref_nan b _ hb).mono ?_
  rintro e w' ⟨rfl, rfl⟩
  cases n : nan b
  · have f1 := ord_self_num hb n
    have g2 := ord_lt hb (show 14114281232179134464 < 18446744073709551616 by omega) n (by decide)
    have g3 := ord_gt hb (show 4890909195324358656 < 18446744073709551616 by omega) n (by decide)
    have g4 := ord_eq hb (show 4890909195324358656 < 18446744073709551616 by omega) n (by decide)
    rw [show key 14114281232179134464 = -4890909195324358656 from by decide] at g2
    rw [show key 4890909195324358656 = 4890909195324358656 from by decide] at g3 g4
    by_cases c1 : key b < -4890909195324358656
    · have f2 : (FloatKind.f64.format.order b 14114281232179134464 == some Ordering.lt) = true := by rw [g2]; simp [c1]
      have k : whK b = false := by unfold whK inR; rw [n]; simp; omega
      clear g2 g3 g4
      go_wp2_with fail
      go_ret2
      exact ret2_of (by unfold whN; rw [k]; rfl) (by first | rfl | (rw [k]; rfl))
    · have f2 : (FloatKind.f64.format.order b 14114281232179134464 == some Ordering.lt) = false := by rw [g2]; simp; omega
      by_cases c2 : key b < 4890909195324358656
      · have f3 : (FloatKind.f64.format.order b 4890909195324358656 == some Ordering.gt || FloatKind.f64.format.order b 4890909195324358656 == some Ordering.eq) = false := by rw [g3, g4]; simp; omega
        have hi : inR b = true := by unfold inR; rw [n]; simp; omega
        clear g2 g3 g4
        cases e : (FloatKind.f64.format.order (floatOfInt .f64 (wcut b)) b == some Ordering.eq)
        · have k : whK b = false := by unfold whK; rw [hi, e]; rfl
          have e' : (FloatKind.f64.format.order (floatOfInt .f64 (wcut b)) b != some Ordering.eq) = true := by unfold bne; rw [e]; rfl
          go_wp2_with fail
          go_ret2
          exact ret2_of (by unfold whN; rw [k]; rfl) (by first | rfl | (rw [k]; rfl))
        · have k : whK b = true := by unfold whK; rw [hi, e]; rfl
          have e' : (FloatKind.f64.format.order (floatOfInt .f64 (wcut b)) b != some Ordering.eq) = false := by unfold bne; rw [e]; rfl
          go_wp2_with fail
          go_ret2
          exact ret2_of (by unfold whN; rw [k]; rfl) (by first | rfl | (rw [k]; rfl))
      · have f3 : (FloatKind.f64.format.order b 4890909195324358656 == some Ordering.gt || FloatKind.f64.format.order b 4890909195324358656 == some Ordering.eq) = true := by rw [g3, g4]; simp; omega
        have k : whK b = false := by unfold whK inR; rw [n]; simp; omega
        clear g2 g3 g4
        go_wp2_with fail
        go_ret2
        exact ret2_of (by unfold whN; rw [k]; rfl) (by first | rfl | (rw [k]; rfl))
  · have f1 := ord_self_nan n
    have k : whK b = false := by unfold whK inR; rw [n]; rfl
    go_wp2_with fail
    go_ret2
    exact ret2_of (by unfold whN; rw [k]; rfl) (by first | rfl | (rw [k]; rfl))
end
end Go.Proofs.Ytiijfmldmggccaa
