/- The walk of the law WordReals: it returns true. No statement of the seat is proved here. -/
import Derived.Test.YtiijfmldmggccaaStepsR
import Derived.Test.YtiijfmldmggccaaWholeR
namespace Go.Proofs.Ytiijfmldmggccaa
open Go.RowKit
set_option maxHeartbeats 400000 in
theorem reals_law (x y : Int) (W : World) (hx : 0 ≤ x ∧ x < 18446744073709551616) (hy : 0 ≤ y ∧ y < 18446744073709551616) :
    Calls Try.prog 4 #[.int .u64 x, .int .u64 y] W fun e w' => e = .returned (.bool true) ∧ w' = W := by
  have ha : x.toNat < 18446744073709551616 := by omega
  have hb : y.toNat < 18446744073709551616 := by omega
  go_enter Try.func4, Try.ntmps4
  go_wp2_with fail
  refine (word_whole x.toNat _ ha).mono ?_
  rintro e w' ⟨rfl, rfl⟩
  go_wp2_with fail
  refine (ref_whole x.toNat _ ha).mono ?_
  rintro e w' ⟨rfl, rfl⟩
  go_wp2_with fail
  refine (word_ofReal x.toNat _ ha).mono ?_
  rintro e w' ⟨rfl, rfl⟩
  go_wp2_with fail
  refine (ref_ofReal x.toNat _ ha).mono ?_
  rintro e w' ⟨rfl, rfl⟩
  go_wp2_with fail
  refine (word_compare x.toNat y.toNat _ ha hb).mono ?_
  rintro e w' ⟨rfl, rfl⟩
  go_wp2_with fail
  refine (ref_compare x.toNat y.toNat _ ha hb).mono ?_
  rintro e w' ⟨rfl, rfl⟩
  go_wp2_with fail
  refine (word_same x.toNat y.toNat _ ha hb).mono ?_
  rintro e w' ⟨rfl, rfl⟩
  go_wp2_with fail
  refine (ref_compare x.toNat y.toNat _ ha hb).mono ?_
  rintro e w' ⟨rfl, rfl⟩
  go_wp2_with fail
  refine (word_up x.toNat _ ha).mono ?_
  rintro e w' ⟨rfl, rfl⟩
  go_wp2_with fail
  refine (ref_up x.toNat _ ha).mono ?_
  rintro e w' ⟨rfl, rfl⟩
  go_wp2_with fail
  refine (ref_alike _ _ _ (upB_lt ha) (upR_lt x.toNat) (upR_like x.toNat)).mono ?_
  rintro e w' ⟨rfl, rfl⟩
  go_wp2_with fail
  refine (word_down x.toNat _ ha).mono ?_
  rintro e w' ⟨rfl, rfl⟩
  go_wp2_with fail
  refine (ref_down x.toNat _ ha).mono ?_
  rintro e w' ⟨rfl, rfl⟩
  go_wp2_with fail
  refine (ref_alike (dnB x.toNat) (dnR x.toNat) _ (dnB_lt _) (dnR_like ha ▸ dnB_lt _) (Or.inr (dnR_like ha))).mono ?_
  rintro e w' ⟨rfl, rfl⟩
  go_wp2_with fail
  refine (known_any _).mono ?_
  rintro e w' ⟨rfl, rfl⟩
  go_wp2_with fail
  go_ret
  exact ret_of rfl
end Go.Proofs.Ytiijfmldmggccaa
