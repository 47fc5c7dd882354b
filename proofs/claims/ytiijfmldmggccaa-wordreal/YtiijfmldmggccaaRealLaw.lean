/- The walk of the law WordReal: it returns true. No statement of the seat is proved here. -/
import Derived.Test.YtiijfmldmggccaaBack
import Derived.Test.YtiijfmldmggccaaCompR
namespace Go.Proofs.Ytiijfmldmggccaa
open Go.RowKit
set_option maxHeartbeats 400000 in
theorem real_law (w : Int) (W : World) (hw : 0 ≤ w ∧ w < 18446744073709551616) :
    Calls Try.prog 5 #[.int .u64 w] W fun e w' => e = .returned (.bool true) ∧ w' = W := by
  go_enter Try.func5, Try.ntmps5
  go_wp2_with fail
  refine (word_real w _ hw.1 hw.2).mono ?_
  rintro e w' ⟨rfl, rfl⟩
  go_wp2_with fail
  refine (ref_real w _ hw.1 hw.2).mono ?_
  rintro e w' ⟨rfl, rfl⟩
  go_wp2_with fail
  refine (ref_alike _ _ _ (reB_lt w) (reB_lt w) (Or.inr rfl)).mono ?_
  rintro e w' ⟨rfl, rfl⟩
  go_wp2_with fail
  refine (known_any _).mono ?_
  rintro e w' ⟨rfl, rfl⟩
  go_wp2_with fail
  go_ret
  exact ret_of rfl
end Go.Proofs.Ytiijfmldmggccaa
