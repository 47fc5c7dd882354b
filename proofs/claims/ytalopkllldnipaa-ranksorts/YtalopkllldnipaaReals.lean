
/- Walks of the word's functions on real numbers: what each returns. No statement of the seat is proved here. -/
import Derived.Test.YtalopkllldnipaaInts
import Derived.Test.YtalopkllldnipaaMathM
import Derived.Laws.FloatArith
import Derived.Laws.Externs
namespace Go.Proofs.Ytalopkllldnipaa
open Go.RowKit

@[go_sem] theorem run_bits (b : Nat) (W : World) : (callFunc 29 #[.float .f64 b]).run Try.prog W = .ok (.value (.int .u64 b)) W := by
  rw [run_callFunc_extern Try.func29 (by kernel_rfl) (by kernel_rfl) (by kernel_rfl) (e := Extern.MathFloatBits.float64bits) (by kernel_rfl)]; rfl
@[go_sem] theorem run_frombits (n : Int) (W : World) : (callFunc 25 #[.int .u64 n]).run Try.prog W = .ok (.value (.float .f64 n.toNat)) W := by
  rw [run_callFunc_extern Try.func25 (by kernel_rfl) (by kernel_rfl) (by kernel_rfl) (e := Extern.MathFloatBits.float64frombits) (by kernel_rfl)]; rfl

theorem ord_self_nan {b : Nat} (h : nan b = true) : (FloatKind.f64.format.order b b != some Ordering.eq) = true := by
  rw [show FloatKind.f64.format.order b b = none from order_nan_left h]; rfl
theorem ord_self_num {b : Nat} (hb : b < 18446744073709551616) (h : nan b = false) : (FloatKind.f64.format.order b b != some Ordering.eq) = false := by
  rw [show FloatKind.f64.format.order b b = some (compare (key b) (key b)) from order_key hb hb h h, cmp_int]
  simp

/-- The word of a real number. -/
def ofR (b : Nat) : Int := if nan b = true then 18446744073709551615 else if b < 9223372036854775808 then (b : Int) + 9223372036854775808 else 18446744073709551615 - (b : Int)
/-- The bits of the real number of a word, and whether it is one's. -/
def reB (w : Int) : Nat := if w = 18446744073709551615 then 9221120237041090561 else if w < 4503599627370495 ∨ 18442240474082181120 < w then 0 else if w < 9223372036854775808 then (18446744073709551615 - w).toNat else (w - 9223372036854775808).toNat
def reK (w : Int) : Bool := decide (w = 18446744073709551615 ∨ (4503599627370495 ≤ w ∧ w ≤ 18442240474082181120))

section
variable (a b : Nat) (w : Int) (W : World)

set_option maxHeartbeats 400000 in
theorem math_nan : Calls Try.prog 68 #[] W fun e w' => e = .returned (.float .f64 9221120237041090561) ∧ w' = W := by
  go_enter Try.func68, Try.ntmps68
  go_wp2_with fail
  go_ret
  exact ret_of rfl

set_option maxHeartbeats 400000 in
theorem word_ofReal (hb : b < 18446744073709551616) : Calls Try.prog 76 #[.float .f64 b] W fun e w' => e = .returned (.int .u64 (ofR b)) ∧ w' = W := by
  go_enter Try.func76, Try.ntmps76
  by_cases h : nan b = true
  · have hn := ord_self_nan h
    go_wp2_with fail
    go_ret
    refine ret_of (congrArg (Value.int .u64) ?_)
    unfold ofR; rw [if_pos h]
  · have hn := ord_self_num hb (by simpa using h)
    by_cases hs : (b : Int) < 9223372036854775808
    · go_wp2_with fail
      go_ret
      refine ret_of (congrArg (Value.int .u64) ?_)
      unfold ofR; rw [if_neg h, if_pos (by omega), xhigh64 _ (by omega) (by omega), if_pos hs]
    · go_wp2_with fail
      go_ret
      refine ret_of (congrArg (Value.int .u64) ?_)
      unfold ofR; rw [if_neg h, if_neg (by omega), xall64 _ (by omega) (by omega)]

set_option maxHeartbeats 400000 in
theorem word_real (h0 : 0 ≤ w) (h1 : w < 18446744073709551616) : Calls Try.prog 75 #[.int .u64 w] W fun e w' => e = .returned (.tuple #[.float .f64 (reB w), .bool (reK w)]) ∧ w' = W := by
  go_enter Try.func75, Try.ntmps75
  by_cases c1 : w = 18446744073709551615
  · subst c1
    go_wp2_with (go_at_call 68; refine (math_nan _).mono ?_; rintro e w' ⟨rfl, rfl⟩)
    go_ret2
    exact ret2_of rfl rfl
  · by_cases c2 : w < 4503599627370495
    · go_wp2_with fail
      go_ret2
      refine ret2_of (congrArg (Value.float .f64) ?_) (congrArg Value.bool ?_)
      · unfold reB; rw [if_neg c1, if_pos (Or.inl c2)]
      · unfold reK; simp; omega
    · by_cases c3 : 18442240474082181120 < w
      · go_wp2_with fail
        go_ret2
        refine ret2_of (congrArg (Value.float .f64) ?_) (congrArg Value.bool ?_)
        · unfold reB; rw [if_neg c1, if_pos (Or.inr c3)]
        · unfold reK; simp; omega
      · by_cases c4 : w < 9223372036854775808
        · go_wp2_with fail
          go_ret2
          refine ret2_of (congrArg (Value.float .f64) ?_) (congrArg Value.bool ?_)
          · unfold reB; rw [if_neg c1, if_neg (by omega), if_pos c4, xall64 _ h0 h1]
          · unfold reK; simp; omega
        · go_wp2_with fail
          go_ret2
          refine ret2_of (congrArg (Value.float .f64) ?_) (congrArg Value.bool ?_)
          · unfold reB; rw [if_neg c1, if_neg (by omega), if_neg (by omega), xhigh64 _ h0 h1, if_neg (by omega)]
          · unfold reK; simp; omega
end
end Go.Proofs.Ytalopkllldnipaa
