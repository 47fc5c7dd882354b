/- The walk of the law WordNearest: it returns true. No statement of the seat is proved here. -/
import Derived.Test.YtiijfmldmggccaaNearestR
import Derived.Test.YtiijfmldmggccaaNearW
import Derived.Test.YtiijfmldmggccaaBack
import Derived.Test.YtiijfmldmggccaaCompR
namespace Go.Proofs.Ytiijfmldmggccaa
open Go.RowKit
set_option maxHeartbeats 400000 in
theorem nearest_law (x : Int) (W : World) (hx : -9223372036854775808 ≤ x ∧ x < 9223372036854775808) :
    Calls Try.prog 6 #[.int .i64 x] W fun e w' => e = .returned (.bool true) ∧ w' = W := by
  obtain ⟨p1, _, _, _⟩ := nr_parts (x := x) (by omega)
  have hq : (whK (nr x) && (whN (nr x) == x)) = decide (x.natAbs % 2 ^ kOf x.natAbs = 0) := by
    by_cases c : x.natAbs % 2 ^ kOf x.natAbs = 0
    · obtain ⟨h1, h2⟩ := nr_exact hx.1 hx.2 c
      rw [h1, h2]; simp [c]
    · rw [nr_other hx.1 hx.2 c]; simp [c]
  go_enter Try.func6, Try.ntmps6
  go_wp2_with fail
  refine (word_nearest x _ hx.1 hx.2).mono ?_
  rintro e w' ⟨rfl, rfl⟩
  rw [hq]
  go_wp2_with fail
  refine (ref_nearest x _ hx.1 hx.2).mono ?_
  rintro e w' ⟨rfl, rfl⟩
  generalize (decide (x.natAbs % 2 ^ kOf x.natAbs = 0)) = r at hq ⊢
  clear hq
  cases r
  all_goals
    go_wp2_with fail
    refine (ref_alike _ _ _ p1 p1 (Or.inr rfl)).mono ?_
    rintro e w' ⟨rfl, rfl⟩
    go_wp2_with fail
    refine (known_any _).mono ?_
    rintro e w' ⟨rfl, rfl⟩
    go_wp2_with fail
    go_ret
    exact ret_of rfl
end Go.Proofs.Ytiijfmldmggccaa
