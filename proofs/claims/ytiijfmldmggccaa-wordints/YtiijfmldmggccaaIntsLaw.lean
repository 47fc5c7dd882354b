/- The walk of the law WordInts: it returns true. No statement of the seat is proved here. -/
import Derived.Test.YtiijfmldmggccaaKnown
import Derived.Test.YtiijfmldmggccaaIntsR
namespace Go.Proofs.Ytiijfmldmggccaa
open Go.RowKit

theorem wf_i64 {a : Int} (h : (Lit.int .i64 a).wf = true) : -9223372036854775808 ≤ a ∧ a < 9223372036854775808 := by
  simp [Lit.wf, IntKind.min, IntKind.max, IntKind.signed, IntKind.bits] at h; omega
theorem wf_u64 {a : Int} (h : (Lit.int .u64 a).wf = true) : 0 ≤ a ∧ a < 18446744073709551616 := by
  simp [Lit.wf, IntKind.min, IntKind.max, IntKind.signed, IntKind.bits] at h; omega
theorem wrap32_bounds (n : Int) : -2147483648 ≤ wrap32 n ∧ wrap32 n < 2147483648 := by unfold wrap32; omega

section
variable (x w v : Int) (W : World)
theorem word_ofPair_back (h0 : 0 ≤ w) (h1 : w < 18446744073709551616) : Calls Try.prog 14 #[.int .i32 (hiP w), .int .i32 (loP w)] W fun e w' => e = .returned (.int .u64 w) ∧ w' = W := by
  have h := word_ofPair (hiP w) (loP w) W (by unfold hiP; omega) (by unfold loP; omega)
  rw [show ofP (hiP w) (loP w) = w from by unfold ofP hiP loP; omega] at h
  exact h

set_option maxHeartbeats 400000 in
theorem ints_law (hx : -9223372036854775808 ≤ x ∧ x < 9223372036854775808) (hw : 0 ≤ w ∧ w < 18446744073709551616) (hv : 0 ≤ v ∧ v < 18446744073709551616) :
    Calls Try.prog 3 #[.int .i64 x, .int .u64 w, .int .u64 v] W fun e w' => e = .returned (.bool true) ∧ w' = W := by
  go_enter Try.func3, Try.ntmps3
  go_wp2_with fail
  refine (word_pair w _ hw.1 hw.2).mono ?_
  rintro e w' ⟨rfl, rfl⟩
  go_wp2_with fail
  refine (word_ofInt x _ hx.1 hx.2).mono ?_
  rintro e w' ⟨rfl, rfl⟩
  go_wp2_with fail
  refine (ref_ofInt x _ hx.1 hx.2).mono ?_
  rintro e w' ⟨rfl, rfl⟩
  go_wp2_with fail
  refine (word_int w _ hw.1 hw.2).mono ?_
  rintro e w' ⟨rfl, rfl⟩
  go_wp2_with fail
  refine (ref_int w _ hw.1 hw.2).mono ?_
  rintro e w' ⟨rfl, rfl⟩
  go_wp2_with fail
  refine (word_ofPair_back w _ hw.1 hw.2).mono ?_
  rintro e w' ⟨rfl, rfl⟩
  go_wp2_with fail
  refine (word_ofPair _ _ _ (wrap32_bounds x) (by omega)).mono ?_
  rintro e w' ⟨rfl, rfl⟩
  go_wp2_with fail
  refine (ref_ofPair _ _ _ (wrap32_bounds x) (by omega)).mono ?_
  rintro e w' ⟨rfl, rfl⟩
  go_wp2_with fail
  refine (word_middle w v _ hw hv).mono ?_
  rintro e w' ⟨rfl, rfl⟩
  go_wp2_with fail
  refine (ref_middle w v _ hw hv).mono ?_
  rintro e w' ⟨rfl, rfl⟩
  go_wp2_with fail
  refine (known_any _).mono ?_
  rintro e w' ⟨rfl, rfl⟩
  go_wp2_with fail
  go_ret
  exact ret_of rfl
end
end Go.Proofs.Ytiijfmldmggccaa
