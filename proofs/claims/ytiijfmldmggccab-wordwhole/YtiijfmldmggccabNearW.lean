/- The walk of Nearest. No statement of the seat is proved here. -/
import Derived.Test.YtiijfmldmggccabNearR
namespace Go.Proofs.Ytiijfmldmggccab
open Go.RowKit Ieee
set_option maxHeartbeats 400000 in
theorem word_nearest (x : Int) (W : World) (h0 : -9223372036854775808 ≤ x) (h1 : x < 9223372036854775808) : Calls Try.prog 18 #[.int .i64 x] W fun e w' => e = .returned (.tuple #[.float .f64 (nr x), .bool (whK (nr x) && (whN (nr x) == x))]) ∧ w' = W := by
  obtain ⟨p1, _, _, _⟩ := nr_parts (x := x) (by omega)
  go_enter Try.func18, Try.ntmps18
  go_wp2_with fail
  refine (word_whole (nr x) _ p1).mono ?_
  rintro e w' ⟨rfl, rfl⟩
  cases k : whK (nr x)
  · go_wp2_with fail
    go_ret2
    exact ret2_of rfl (by rw [k]; rfl)
  · go_wp2_with fail
    go_ret2
    exact ret2_of rfl (by rw [k]; rfl)
end Go.Proofs.Ytiijfmldmggccab
