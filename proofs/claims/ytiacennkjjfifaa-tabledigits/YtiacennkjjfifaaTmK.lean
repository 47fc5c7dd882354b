
/- The law TableDigits, walked (layer 25). No statement of the seat is proved here. -/
import Derived.Test.YtiacennkjjfifaaTmI
import Derived.Laws.Bits64b
namespace Go.Proofs.Ytiacennkjjfifaa
open Go.RowKit

set_option maxHeartbeats 400000 in
theorem rhash_any (k : Int) (w : World) : Calls Try.prog 26 #[.int .u64 k] w fun e w' => e = .returned (.int .u64 (hashK k)) ∧ w' = w := by
  go_enter Try.func26, Try.ntmps26
  go_wp2_with fail
  go_ret
  exact ⟨rfl, rfl⟩
theorem and15 (x : Int) (h0 : 0 ≤ x) (h1 : x < 18446744073709551616) : bits .and .u64 x 15 = x % 16 := by
  obtain ⟨n, rfl⟩ := Int.eq_ofNat_of_zero_le h0
  rw [show (15 : Int) = ((15 : Nat) : Int) by rfl, bits_and_u64_nat _ _ (by omega) (by omega), show (15 : Nat) = 2 ^ 4 - 1 by rfl, Nat.and_two_pow_sub_one_eq_mod]
  omega
theorem dgK_and (k : Int) (d : Nat) : bits .and .u64 (hashK k / 2 ^ (60 - 4 * d)) 15 = dgK k d := by
  have h := hashK_isW k
  have h0 : 0 ≤ hashK k / 2 ^ (60 - 4 * d) := Int.ediv_nonneg h.1 (Int.pow_nonneg (by decide))
  have h1 : hashK k / 2 ^ (60 - 4 * d) ≤ hashK k := Int.ediv_le_self _ h.1
  exact and15 _ h0 (by have := h.2; omega)
set_option maxHeartbeats 1000000 in
theorem rdigit_any (k : Int) (d : Nat) (hd : d < 16) (w : World) : Calls Try.prog 27 #[.int .u64 k, .int .i64 d] w fun e w' => e = .returned (.int .u64 (dgK k d)) ∧ w' = w := by
  have hd' : (d : Int) < 16 := by omega
  have hw1 : IntKind.i64.wrap (4 * (d : Int)) = 4 * (d : Int) := by rw [IntKind.wrap_i64]; omega
  have hw2 : IntKind.i64.wrap (60 - 4 * (d : Int)) = 60 - 4 * (d : Int) := by rw [IntKind.wrap_i64]; omega
  go_enter Try.func27, Try.ntmps27
  go_wp2_with fail
  refine (rhash_any k _).mono ?_
  rintro e_ w_ ⟨rfl, hw_⟩
  subst w_
  go_wp2_with fail
  rw [dgK_and]
  go_ret
  exact ⟨rfl, rfl⟩
set_option maxHeartbeats 1000000 in
theorem tdigit_any (k d : Int) (w : World) : Calls Try.prog 24 #[.int .u64 k, .int .i64 d] w fun e w' => e = .returned (.tuple #[.int .i64 (if 0 ≤ d ∧ d < 16 then dgK k d.toNat else 0), .int .i64 (if 0 ≤ d ∧ d < 16 then 0 else 2)]) ∧ w' = w := by
  by_cases h1 : 0 ≤ d ∧ d < 16
  · rw [if_pos h1, if_pos h1]
    obtain ⟨n, rfl⟩ : ∃ n : Nat, d = n := ⟨d.toNat, by omega⟩
    have hn : n < 16 := by omega
    have hn' : (n : Int) < 16 := h1.2
    have hdg := dgK_lt k n
    have hw : IntKind.i64.wrap (dgK k n) = dgK k n := by rw [IntKind.wrap_i64]; omega
    rw [show ((n : Int)).toNat = n by omega]
    clear h1 hdg
    go_enter Try.func24, Try.ntmps24
    go_wp2_with fail
    refine (digit_any k n hn _).mono ?_
    rintro e_ w_ ⟨rfl, hw_⟩
    subst w_
    go_wp2_with fail
    go_ret2
    exact ⟨rfl, rfl⟩
  · rw [if_neg h1, if_neg h1]
    by_cases h0 : d < 0
    · clear h1
      go_enter Try.func24, Try.ntmps24
      go_wp2_with fail
      go_ret2
      exact ⟨rfl, rfl⟩
    · have h3 : 16 ≤ d := by omega
      have h2 : 0 ≤ d := by omega
      clear h1 h0
      go_enter Try.func24, Try.ntmps24
      go_wp2_with fail
      go_ret2
      exact ⟨rfl, rfl⟩
set_option maxHeartbeats 1000000 in
theorem digits_walk (k d : Int) (w : World) : Calls Try.prog 7 #[.int .u64 k, .int .i64 d] w fun e w' => e = .returned (.bool true) ∧ Keeps (fun _ => False) w w' := by
  by_cases h : 0 ≤ d ∧ d < 16
  · obtain ⟨n, rfl⟩ : ∃ n : Nat, d = n := ⟨d.toNat, by omega⟩
    have hn : n < 16 := by omega
    have hn' : (n : Int) < 16 := h.2
    have hdg := dgK_lt k n
    have hw : IntKind.i64.wrap (dgK k n) = dgK k n := by rw [IntKind.wrap_i64]; omega
    have hc := tdigit_any k n w
    rw [if_pos h, if_pos h, show ((n : Int)).toNat = n by omega] at hc
    clear h hdg
    go_enter Try.func7, Try.ntmps7
    go_wp2_with fail
    refine hc.mono ?_
    rintro e_ w_ ⟨rfl, hw_⟩
    subst w_
    go_wp2_with fail
    refine (hash_any k _).mono ?_
    rintro e_ w_ ⟨rfl, hw_⟩
    subst w_
    go_wp2_with fail
    refine (rhash_any k _).mono ?_
    rintro e_ w_ ⟨rfl, hw_⟩
    subst w_
    go_wp2_with fail
    refine (num_any 0 _).mono ?_
    rintro e_ w_ ⟨rfl, hw_⟩
    subst w_
    go_wp2_with fail
    refine (rdigit_any k n hn _).mono ?_
    rintro e_ w_ ⟨rfl, hw_⟩
    subst w_
    go_wp2_with fail
    refine (known_any _).mono ?_
    rintro e_ w_ ⟨rfl, hK⟩
    go_wp2_with fail
    go_ret
    exact ⟨rfl, hK⟩
  · have hc := tdigit_any k d w
    rw [if_neg h, if_neg h] at hc
    by_cases h0 : d < 0
    · clear h
      go_enter Try.func7, Try.ntmps7
      go_wp2_with fail
      refine hc.mono ?_
      rintro e_ w_ ⟨rfl, hw_⟩
      subst w_
      go_wp2_with fail
      refine (hash_any k _).mono ?_
      rintro e_ w_ ⟨rfl, hw_⟩
      subst w_
      go_wp2_with fail
      refine (rhash_any k _).mono ?_
      rintro e_ w_ ⟨rfl, hw_⟩
      subst w_
      go_wp2_with fail
      refine (num_any 2 _).mono ?_
      rintro e_ w_ ⟨rfl, hw_⟩
      subst w_
      go_wp2_with fail
      refine (known_any _).mono ?_
      rintro e_ w_ ⟨rfl, hK⟩
      go_wp2_with fail
      go_ret
      exact ⟨rfl, hK⟩
    · have h3 : 15 < d := by omega
      have h2 : 0 ≤ d := by omega
      clear h h0
      go_enter Try.func7, Try.ntmps7
      go_wp2_with fail
      refine hc.mono ?_
      rintro e_ w_ ⟨rfl, hw_⟩
      subst w_
      go_wp2_with fail
      refine (hash_any k _).mono ?_
      rintro e_ w_ ⟨rfl, hw_⟩
      subst w_
      go_wp2_with fail
      refine (rhash_any k _).mono ?_
      rintro e_ w_ ⟨rfl, hw_⟩
      subst w_
      go_wp2_with fail
      refine (num_any 2 _).mono ?_
      rintro e_ w_ ⟨rfl, hw_⟩
      subst w_
      go_wp2_with fail
      refine (known_any _).mono ?_
      rintro e_ w_ ⟨rfl, hK⟩
      go_wp2_with fail
      go_ret
      exact ⟨rfl, hK⟩
end Go.Proofs.Ytiacennkjjfifaa
