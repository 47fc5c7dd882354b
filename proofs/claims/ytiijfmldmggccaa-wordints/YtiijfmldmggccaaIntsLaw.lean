/- The walk of the law WordInts: it returns true. No statement of the seat is proved here. -/
import Derived.Test.YtiijfmldmggccaaBack
import Derived.Test.YtiijfmldmggccaaIntsR
namespace Go.Proofs.Ytiijfmldmggccaa
open Go.RowKit

section
variable (x w v : Int) (W : World)
set_option maxHeartbeats 400000 in
theorem ints_law (hx : -9223372036854775808 ≤ x ∧ x < 9223372036854775808) (hw : 0 ≤ w ∧ w < 18446744073709551616) (hv : 0 ≤ v ∧ v < 18446744073709551616) :
    Calls Try.prog 3 #[.int .i64 x, .int .u64 w, .int .u64 v] W fun e w' => e = .returned (.bool true) ∧ w' = W := by
  go_enter Try.func3, Try.ntmps3
  go_wp2_with fail
  refine (word_pair w _ hw.1 hw.2).mono ?_
  rintro e w' ⟨rfl, rfl⟩
  go_wp2_with fail
  refine (word_ofInt x _ hx.1 hx.2).mono ?_
  rintro e w' ⟨rfl, rfl⟩
  go_wp2_with fail
  refine (ref_ofInt x _ hx.1 hx.2).mono ?_
  rintro e w' ⟨rfl, rfl⟩
  go_wp2_with fail
  refine (word_int w _ hw.1 hw.2).mono ?_
  rintro e w' ⟨rfl, rfl⟩
  go_wp2_with fail
  refine (ref_int w _ hw.1 hw.2).mono ?_
  rintro e w' ⟨rfl, rfl⟩
  go_wp2_with fail
  refine (word_ofPair_back w _ hw.1 hw.2).mono ?_
  rintro e w' ⟨rfl, rfl⟩
  go_wp2_with fail
  refine (word_ofPair _ _ _ (wrap32_bounds x) (by omega)).mono ?_
  rintro e w' ⟨rfl, rfl⟩
  go_wp2_with fail
  refine (ref_ofPair _ _ _ (wrap32_bounds x) (by omega)).mono ?_
  rintro e w' ⟨rfl, rfl⟩
  go_wp2_with fail
  refine (word_middle w v _ hw hv).mono ?_
  rintro e w' ⟨rfl, rfl⟩
  go_wp2_with fail
  refine (ref_middle w v _ hw hv).mono ?_
  rintro e w' ⟨rfl, rfl⟩
  go_wp2_with fail
  refine (known_any _).mono ?_
  rintro e w' ⟨rfl, rfl⟩
  go_wp2_with fail
  go_ret
  exact ret_of rfl
end
end Go.Proofs.Ytiijfmldmggccaa
