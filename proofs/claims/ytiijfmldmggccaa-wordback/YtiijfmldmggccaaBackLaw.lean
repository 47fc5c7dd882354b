/- The walk of the law WordBack: it returns true. No statement of the seat is proved here. -/
import Derived.Test.YtiijfmldmggccaaBack
namespace Go.Proofs.Ytiijfmldmggccaa
open Go.RowKit
set_option maxHeartbeats 400000 in
theorem back_law (x w : Int) (W : World) (hx : -9223372036854775808 ≤ x ∧ x < 9223372036854775808) (hw : 0 ≤ w ∧ w < 18446744073709551616) :
    Calls Try.prog 8 #[.int .i64 x, .int .u64 w] W fun e w' => e = .returned (.bool true) ∧ w' = W := by
  have ha : w.toNat < 18446744073709551616 := by omega
  go_enter Try.func8, Try.ntmps8
  go_wp2_with fail
  refine (word_ofReal w.toNat _ ha).mono ?_
  rintro e w' ⟨rfl, rfl⟩
  go_wp2_with fail
  refine (word_real_of w.toNat _ ha).mono ?_
  rintro e w' ⟨rfl, rfl⟩
  go_wp2_with fail
  refine (word_ofPair _ _ _ (wrap32_bounds x) (wrap32_bounds w)).mono ?_
  rintro e w' ⟨rfl, rfl⟩
  go_wp2_with fail
  refine (word_pair_back _ _ _ (wrap32_bounds x) (wrap32_bounds w)).mono ?_
  rintro e w' ⟨rfl, rfl⟩
  go_wp2_with fail
  refine (word_real w _ hw.1 hw.2).mono ?_
  rintro e w' ⟨rfl, rfl⟩
  go_wp2_with fail
  refine (law_bits w.toNat _ _ ha (by cases n : nan w.toNat; exact Or.inr (reB_ofR ha n).symm; exact Or.inl ⟨rfl, reB_ofR_nan n⟩)).mono ?_
  rintro e w' ⟨rfl, rfl⟩
  go_wp2_with fail
  refine (word_ofInt x _ hx.1 hx.2).mono ?_
  rintro e w' ⟨rfl, rfl⟩
  go_wp2_with fail
  refine (word_int_back x _ hx).mono ?_
  rintro e w' ⟨rfl, rfl⟩
  go_wp2_with fail
  refine (word_int w _ hw.1 hw.2).mono ?_
  rintro e w' ⟨rfl, rfl⟩
  go_wp2_with fail
  refine (word_ofInt_back w _ hw).mono ?_
  rintro e w' ⟨rfl, rfl⟩
  cases k : reK w
  · rw [reB_none k]
    go_wp2_with fail
    refine (law_bits 0 0 _ (by omega) (Or.inr rfl)).mono ?_
    rintro e w' ⟨rfl, rfl⟩
    go_wp2_with fail
    refine (known_any _).mono ?_
    rintro e w' ⟨rfl, rfl⟩
    go_wp2_with fail
    go_ret
    exact ret_of rfl
  · go_wp2_with fail
    refine (word_ofReal (reB w) _ (reB_lt w)).mono ?_
    rintro e w' ⟨rfl, rfl⟩
    rw [ofR_reB k]
    go_wp2_with fail
    refine (known_any _).mono ?_
    rintro e w' ⟨rfl, rfl⟩
    go_wp2_with fail
    go_ret
    exact ret_of rfl
end Go.Proofs.Ytiijfmldmggccaa
