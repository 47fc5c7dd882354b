/- The walk of the law WordOrder: it returns true. No statement of the seat is proved here. -/
import Derived.Test.YtiijfmldmggccabSteps
namespace Go.Proofs.Ytiijfmldmggccab
open Go.RowKit

/-- How two real numbers stand to one another: what the law asks of them. -/
structure Stand (a b : Nat) (c d : Int) (na nb lt eq nz : Bool) : Prop where
  ab : cmpI (ofR a) (ofR b) = c
  ba : cmpI (ofR b) (ofR a) = d
  aa : (FloatKind.f64.format.order a a == some Ordering.eq) = !na
  aa' : (FloatKind.f64.format.order a a != some Ordering.eq) = na
  bb' : (FloatKind.f64.format.order b b != some Ordering.eq) = nb
  lt : (FloatKind.f64.format.order a b == some Ordering.lt) = lt
  eq : (FloatKind.f64.format.order a b == some Ordering.eq) = eq
  nz : (FloatKind.f64.format.order a 0 != some Ordering.eq) = nz

theorem bne_of {o : Option Ordering} {b : Bool} (h : (o != some Ordering.eq) = b) : (o == some Ordering.eq) = !b := by
  unfold bne at h; cases e : (o == some Ordering.eq) <;> simp_all

theorem key_zero : key 0 = 0 := by decide

theorem stands {a b : Nat} (ha : a < 18446744073709551616) (hb : b < 18446744073709551616) :
    Stand a b 0 0 true true false false true ∨ Stand a b 1 (-1) true false false false true ∨ (∃ z, Stand a b (-1) 1 false true false false z) ∨
    (∃ z, Stand a b (-1) 1 false false true false z) ∨ (∃ z, Stand a b 1 (-1) false false false false z) ∨
    (∃ z, Stand a b 0 0 false false false true z) ∨ Stand a b (-1) 1 false false false true false ∨ Stand a b 1 (-1) false false false true false := by
  cases n : nan a
  · have A := ord_self_num ha n
    have A' := bne_of A
    have Z : (FloatKind.f64.format.order a 0 == some Ordering.eq) = decide (key a = 0) := by rw [ord_eq ha (by omega) n (by decide), key_zero]
    have Z' : (FloatKind.f64.format.order a 0 != some Ordering.eq) = !decide (key a = 0) := by unfold bne; rw [Z]
    cases m : nan b
    · have B := ord_self_num hb m
      have L := ord_lt ha hb n m
      have E := ord_eq ha hb n m
      rcases Int.lt_trichotomy (key a) (key b) with c | c | c
      · refine Or.inr (Or.inr (Or.inr (Or.inl ⟨_, ?_, ?_, A', A, B, ?_, ?_, rfl⟩)))
        · unfold cmpI; rw [if_pos]; rw [ofR_key n, ofR_key m]; unfold key at c ⊢; (repeat' split at c) <;> (repeat' split) <;> omega
        · unfold cmpI; rw [if_neg, if_neg] <;> rw [ofR_key n, ofR_key m] <;> unfold key at c ⊢ <;> (repeat' split at c) <;> (repeat' split) <;> omega
        · rw [L]; simp [c]
        · rw [E]; simp; omega
      · have l : (FloatKind.f64.format.order a b == some Ordering.lt) = false := by rw [L]; simp [c]
        have e : (FloatKind.f64.format.order a b == some Ordering.eq) = true := by rw [E]; simp [c]
        rcases Int.lt_trichotomy (ofR a) (ofR b) with o | o | o
        · refine Or.inr (Or.inr (Or.inr (Or.inr (Or.inr (Or.inr (Or.inl ⟨?_, ?_, A', A, B, l, e, ?_⟩))))))
          · unfold cmpI; rw [if_pos o]
          · unfold cmpI; rw [if_neg (by omega), if_neg (by omega)]
          · rw [Z']; rw [ofR_key n, ofR_key m] at o; unfold key at c o ⊢; simp; (repeat' split at c) <;> (repeat' split at o) <;> (repeat' split) <;> omega
        · refine Or.inr (Or.inr (Or.inr (Or.inr (Or.inr (Or.inl ⟨_, ?_, ?_, A', A, B, l, e, rfl⟩)))))
          · unfold cmpI; rw [if_neg (by omega), if_pos o]
          · unfold cmpI; rw [if_neg (by omega), if_pos o.symm]
        · refine Or.inr (Or.inr (Or.inr (Or.inr (Or.inr (Or.inr (Or.inr ⟨?_, ?_, A', A, B, l, e, ?_⟩))))))
          · unfold cmpI; rw [if_neg (by omega), if_neg (by omega)]
          · unfold cmpI; rw [if_pos o]
          · rw [Z']; rw [ofR_key n, ofR_key m] at o; unfold key at c o ⊢; simp; (repeat' split at c) <;> (repeat' split at o) <;> (repeat' split) <;> omega
      · refine Or.inr (Or.inr (Or.inr (Or.inr (Or.inl ⟨_, ?_, ?_, A', A, B, ?_, ?_, rfl⟩))))
        · unfold cmpI; rw [if_neg, if_neg] <;> rw [ofR_key n, ofR_key m] <;> unfold key at c ⊢ <;> (repeat' split at c) <;> (repeat' split) <;> omega
        · unfold cmpI; rw [if_pos]; rw [ofR_key n, ofR_key m]; unfold key at c ⊢; (repeat' split at c) <;> (repeat' split) <;> omega
        · rw [L]; simp; omega
        · rw [E]; simp; omega
    · have B := ord_self_nan m
      have o : FloatKind.f64.format.order a b = none := order_nan_right m
      have oa := ofR_num ha n
      have ob : ofR b = 18446744073709551615 := by unfold ofR; rw [m]; rfl
      refine Or.inr (Or.inr (Or.inl ⟨_, ?_, ?_, A', A, B, ?_, ?_, rfl⟩))
      · unfold cmpI; rw [if_pos (by omega)]
      · unfold cmpI; rw [if_neg (by omega), if_neg (by omega)]
      · rw [o]; rfl
      · rw [o]; rfl
  · have A := ord_self_nan n
    have A' := bne_of A
    have o : FloatKind.f64.format.order a b = none := order_nan_left n
    have z : FloatKind.f64.format.order a 0 = none := order_nan_left n
    have oa : ofR a = 18446744073709551615 := by unfold ofR; rw [n]; rfl
    cases m : nan b
    · have B := ord_self_num hb m
      have ob := ofR_num hb m
      refine Or.inr (Or.inl ⟨?_, ?_, A', A, B, ?_, ?_, ?_⟩)
      · unfold cmpI; rw [if_neg (by omega), if_neg (by omega)]
      · unfold cmpI; rw [if_pos (by omega)]
      · rw [o]; rfl
      · rw [o]; rfl
      · rw [z]; rfl
    · have B := ord_self_nan m
      have ob : ofR b = 18446744073709551615 := by unfold ofR; rw [m]; rfl
      refine Or.inl ⟨?_, ?_, A', A, B, ?_, ?_, ?_⟩
      · unfold cmpI; rw [if_neg (by omega), if_pos (by omega)]
      · unfold cmpI; rw [if_neg (by omega), if_pos (by omega)]
      · rw [o]; rfl
      · rw [o]; rfl
      · rw [z]; rfl

section
variable (a b : Nat) (v w : Int) (W : World)
set_option maxHeartbeats 400000 in
theorem law_sign : Calls Try.prog 7 #[.int .u64 v, .int .u64 w] W fun e w' => e = .returned (.int .i64 (cmpI v w)) ∧ w' = W := by
  go_enter Try.func7, Try.ntmps7
  rcases Int.lt_trichotomy v w with c | c | c
  · go_wp2_with fail
    go_ret
    exact ret_of (congrArg (Value.int .i64) (by unfold cmpI; rw [if_pos c]))
  · subst c
    go_wp2_with fail
    go_ret
    exact ret_of (congrArg (Value.int .i64) (by unfold cmpI; simp))
  · go_wp2_with fail
    go_ret
    exact ret_of (congrArg (Value.int .i64) (by unfold cmpI; rw [if_neg (by omega), if_neg (by omega)]))

theorem word_ofInt' (h0 : -9223372036854775808 ≤ v) (h1 : v < 9223372036854775808) : Calls Try.prog 9 #[.int .i64 v] W fun e w' => e = .returned (.int .u64 (v + 9223372036854775808)) ∧ w' = W := word_ofInt v W h0 h1
end

set_option maxHeartbeats 4000000 in
theorem order_law (x y v w : Int) (W : World) (hx : -9223372036854775808 ≤ x ∧ x < 9223372036854775808) (hy : -9223372036854775808 ≤ y ∧ y < 9223372036854775808) (hv : 0 ≤ v ∧ v < 18446744073709551616) (hw : 0 ≤ w ∧ w < 18446744073709551616) :
    Calls Try.prog 3 #[.int .i64 x, .int .i64 y, .int .u64 v, .int .u64 w] W fun e w' => e = .returned (.bool true) ∧ w' = W := by
  have ha : v.toNat < 18446744073709551616 := by omega
  have hb : w.toNat < 18446744073709551616 := by omega
  rcases stands ha hb with S | S | ⟨z, S⟩ | ⟨z, S⟩ | ⟨z, S⟩ | ⟨_ | _, S⟩ | S | S
  all_goals
    obtain ⟨ab, ba, f1, f2, f3, f4, f5, f6⟩ := S
    first | (simp only [Bool.not_true] at f1) | (simp only [Bool.not_false] at f1)
    go_enter Try.func3, Try.ntmps3
    go_wp2_with fail
    refine (word_ofReal v.toNat _ ha).mono ?_
    rintro e w' ⟨rfl, rfl⟩
    go_wp2_with fail
    refine (word_ofReal w.toNat _ hb).mono ?_
    rintro e w' ⟨rfl, rfl⟩
    go_wp2_with fail
    refine (law_sign _ _ _).mono ?_
    rintro e w' ⟨rfl, rfl⟩
    rw [ab]
    go_wp2_with fail
    refine (word_ofInt' x _ hx.1 hx.2).mono ?_
    rintro e w' ⟨rfl, rfl⟩
    go_wp2_with fail
    refine (word_ofInt' y _ hy.1 hy.2).mono ?_
    rintro e w' ⟨rfl, rfl⟩
    go_wp2_with fail
    refine (word_compare v.toNat w.toNat _ ha hb).mono ?_
    rintro e w' ⟨rfl, rfl⟩
    rw [ab]
    go_wp2_with fail
    refine (word_compare w.toNat v.toNat _ hb ha).mono ?_
    rintro e w' ⟨rfl, rfl⟩
    rw [ba]
    go_wp2_with fail
    refine (word_same v.toNat w.toNat _ ha hb).mono ?_
    rintro e w' ⟨rfl, rfl⟩
    rw [ab]
    rcases Int.lt_trichotomy (wrap32 x) (wrap32 y) with c | c | c
    · have o : ofP (wrap32 x) (wrap32 v) < ofP (wrap32 y) (wrap32 w) := by
        have := wrap32_bounds v; have := wrap32_bounds w; unfold ofP; omega
      go_wp2_with fail
      refine (word_ofPair _ _ _ (by exact wrap32_bounds _) (by exact wrap32_bounds _)).mono ?_
      rintro e w' ⟨rfl, rfl⟩
      go_wp2_with fail
      refine (word_ofPair _ _ _ (by exact wrap32_bounds _) (by exact wrap32_bounds _)).mono ?_
      rintro e w' ⟨rfl, rfl⟩
      go_wp2_with fail
      refine (known_any _).mono ?_
      rintro e w' ⟨rfl, rfl⟩
      go_wp2_with fail
      go_ret
      exact ret_of rfl
    · by_cases d : wrap32 v < wrap32 w
      · have o : ofP (wrap32 x) (wrap32 v) < ofP (wrap32 y) (wrap32 w) := by
          unfold ofP; omega
        have o' := o
        rw [c] at o'
        go_wp2_with fail
        refine (word_ofPair _ _ _ (by exact wrap32_bounds _) (by exact wrap32_bounds _)).mono ?_
        rintro e w' ⟨rfl, rfl⟩
        go_wp2_with fail
        refine (word_ofPair _ _ _ (by exact wrap32_bounds _) (by exact wrap32_bounds _)).mono ?_
        rintro e w' ⟨rfl, rfl⟩
        go_wp2_with fail
        refine (known_any _).mono ?_
        rintro e w' ⟨rfl, rfl⟩
        go_wp2_with fail
        go_ret
        exact ret_of rfl
      · have o : ¬ ofP (wrap32 x) (wrap32 v) < ofP (wrap32 y) (wrap32 w) := by
          unfold ofP; omega
        have o' := o
        rw [c] at o'
        go_wp2_with fail
        refine (word_ofPair _ _ _ (by exact wrap32_bounds _) (by exact wrap32_bounds _)).mono ?_
        rintro e w' ⟨rfl, rfl⟩
        go_wp2_with fail
        refine (word_ofPair _ _ _ (by exact wrap32_bounds _) (by exact wrap32_bounds _)).mono ?_
        rintro e w' ⟨rfl, rfl⟩
        go_wp2_with fail
        refine (known_any _).mono ?_
        rintro e w' ⟨rfl, rfl⟩
        go_wp2_with fail
        go_ret
        exact ret_of rfl
    · have o : ¬ ofP (wrap32 x) (wrap32 v) < ofP (wrap32 y) (wrap32 w) := by
        have := wrap32_bounds v; have := wrap32_bounds w; unfold ofP; omega
      go_wp2_with fail
      refine (word_ofPair _ _ _ (by exact wrap32_bounds _) (by exact wrap32_bounds _)).mono ?_
      rintro e w' ⟨rfl, rfl⟩
      go_wp2_with fail
      refine (word_ofPair _ _ _ (by exact wrap32_bounds _) (by exact wrap32_bounds _)).mono ?_
      rintro e w' ⟨rfl, rfl⟩
      go_wp2_with fail
      refine (known_any _).mono ?_
      rintro e w' ⟨rfl, rfl⟩
      go_wp2_with fail
      go_ret
      exact ret_of rfl
end Go.Proofs.Ytiijfmldmggccab
