/- The walks of the document's Least, and of the law's among. No statement of the seat is proved here. -/
import Derived.Test.YtiijfmldmggccaaLeast
import Derived.Test.YtiijfmldmggccaaStepsR
namespace Go.Proofs.Ytiijfmldmggccaa
open Go.RowKit Ieee

set_option maxHeartbeats 400000 in
theorem rleast_nil (W : World) : Calls Try.prog 37 #[.slice none 0 0] W fun e w' => e = .returned (.tuple #[.float .f64 0, .bool false]) ∧ w' = W := by
  go_enter Try.func37, Try.ntmps37
  go_wp2_with fail
  go_loop [4, 5] (fun l i => i = .int .i64 0 ∧ l = .float .f64 0) (fun _ _ => 0)
  case atStart => exact ⟨rfl, rfl⟩
  case round =>
    obtain ⟨rfl, rfl⟩ := hrel
    go_wp2_with fail
    go_ret2
    exact ret2_of rfl rfl

/-- The least of the first k ones, or 0. -/
def lstO (f : Nat → Nat) : Nat → Nat
  | 0 => 0
  | k + 1 => lst ltF f k

set_option maxHeartbeats 400000 in
theorem rleast (g n cap : Nat) (f : Nat → Nat) (W : World) (h1 : 1 ≤ n) (hc : n ≤ cap) (hm : cap ≤ maxLen) (hf : ∀ j, f j < 18446744073709551616) (h : ∀ j, j < n → W.cell? ⟨g, j, none⟩ = some (.float .f64 (f j))) :
    Calls Try.prog 37 #[.slice (some ⟨g, 0, none⟩) n cap] W fun e w' => e = .returned (.tuple #[.float .f64 (lst ltF f (n - 1)), .bool true]) ∧ w' = W := by
  have hml : cap ≤ 9223372036854775807 := by simpa [maxLen] using hm
  have hn0 : ¬ (n : Int) ≤ 0 := by omega
  go_enter Try.func37, Try.ntmps37
  go_wp2_with fail
  go_loop [4, 5] (fun l i => ∃ k : Nat, k ≤ n ∧ i = .int .i64 k ∧ l = .float .f64 (lstO f k)) (fun _ i => n - (intOf i).toNat)
  case atStart => exact ⟨0, by omega, rfl, rfl⟩
  case round =>
    obtain ⟨k, hk, rfl, rfl⟩ := hrel
    by_cases hlt : k < n
    · have ck := h k hlt
      cases k with
      | zero =>
        go_wp2_with fail
        go_round
        case rel => exact ⟨1, by omega, by go_num, rfl⟩
        case measure => simp [intOf]; omega
      | succ k =>
        have hl : lst ltF f k < 18446744073709551616 := by obtain ⟨j, _, e⟩ := lst_among ltF f k; rw [e]; exact hf j
        have HS : Hid (lst ltF f (k + 1) = if ltF (f (k + 1)) (lst ltF f k) = true then f (k + 1) else lst ltF f k) := rfl
        rw [show lstO f (k + 1) = lst ltF f k from rfl]
        generalize lst ltF f k = l at *
        go_wp2_with fail
        refine (ref_compare _ _ _ (hf _) hl).mono ?_
        rintro e w' ⟨rfl, rfl⟩
        cases c : ltF (f (k + 1)) l
        · have hq : cmpI (ofR (f (k + 1))) (ofR l) = 0 ∨ cmpI (ofR (f (k + 1))) (ofR l) = 1 := by
            simp only [ltF, decide_eq_false_iff_not] at c
            unfold cmpI; rw [if_neg c]; split <;> simp
          rcases hq with hq | hq
          all_goals
            rw [hq]
            go_wp2_with fail
            go_round
            case rel => exact ⟨k + 2, by omega, by go_num, by rw [show lstO f (k + 2) = lst ltF f (k + 1) from rfl, HS.out, c]; rfl⟩
            case measure => simp [intOf]; omega
        · have hq : cmpI (ofR (f (k + 1))) (ofR l) = -1 := by
            simp only [ltF, decide_eq_true_eq] at c
            unfold cmpI; rw [if_pos c]
          rw [hq]
          go_wp2_with fail
          go_round
          case rel => exact ⟨k + 2, by omega, by go_num, by rw [show lstO f (k + 2) = lst ltF f (k + 1) from rfl, HS.out, c]; rfl⟩
          case measure => simp [intOf]; omega
    · obtain rfl : k = n := by omega
      go_wp2_with fail
      go_ret2
      refine ret2_of (congrArg (Value.float .f64) ?_) (congrArg Value.bool (by simp; omega))
      obtain ⟨m, rfl⟩ : ∃ m, k = m + 1 := ⟨k - 1, by omega⟩
      rfl

set_option maxHeartbeats 400000 in
theorem among_i8_nil (W : World) : Calls Try.prog 43 #[.slice none 0 0, .int .i8 0] W fun e w' => e = .returned (.bool true) ∧ w' = W := by
  go_enter Try.func43, Try.ntmps43
  go_wp2_with fail
  go_loop [5] (fun i => i = .int .i64 0) (fun _ => 0)
  case atStart => exact rfl
  case round =>
    obtain rfl := hrel
    go_wp2_with fail
    go_ret
    exact ret_of rfl

set_option maxHeartbeats 400000 in
theorem among_i8 (g n cap : Nat) (f : Nat → Int) (W : World) (x : Int) (j : Nat) (hj : j < n) (hx : f j = x) (hc : n ≤ cap) (hm : cap ≤ maxLen) (h : ∀ j, j < n → W.cell? ⟨g, j, none⟩ = some (.int .i8 (f j))) :
    Calls Try.prog 43 #[.slice (some ⟨g, 0, none⟩) n cap, .int .i8 x] W fun e w' => e = .returned (.bool true) ∧ w' = W := by
  have hml : cap ≤ 9223372036854775807 := by simpa [maxLen] using hm
  go_enter Try.func43, Try.ntmps43
  go_wp2_with fail
  go_loop [5] (fun i => ∃ k : Nat, k ≤ j ∧ i = .int .i64 k) (fun i => n - (intOf i).toNat)
  case atStart => exact ⟨0, by omega, rfl⟩
  case round =>
    obtain ⟨k, hk, rfl⟩ := hrel
    have ck := h k (by omega)
    have hlt : k < n := by omega
    by_cases e : f k = x
    · rw [e] at ck
      clear h hx e
      go_wp2_with fail
      go_ret
      exact ret_of rfl
    · have hkj : k ≠ j := by intro c; subst c; exact e hx
      have e' : (f k == x) = false := by simp [e]
      clear hx
      go_wp2_with fail
      go_round
      case rel => exact ⟨k + 1, by omega, by go_num⟩
      case measure => simp [intOf]; omega

set_option maxHeartbeats 400000 in
theorem among_i16_nil (W : World) : Calls Try.prog 44 #[.slice none 0 0, .int .i16 0] W fun e w' => e = .returned (.bool true) ∧ w' = W := by
  go_enter Try.func44, Try.ntmps44
  go_wp2_with fail
  go_loop [5] (fun i => i = .int .i64 0) (fun _ => 0)
  case atStart => exact rfl
  case round =>
    obtain rfl := hrel
    go_wp2_with fail
    go_ret
    exact ret_of rfl

set_option maxHeartbeats 400000 in
theorem among_i16 (g n cap : Nat) (f : Nat → Int) (W : World) (x : Int) (j : Nat) (hj : j < n) (hx : f j = x) (hc : n ≤ cap) (hm : cap ≤ maxLen) (h : ∀ j, j < n → W.cell? ⟨g, j, none⟩ = some (.int .i16 (f j))) :
    Calls Try.prog 44 #[.slice (some ⟨g, 0, none⟩) n cap, .int .i16 x] W fun e w' => e = .returned (.bool true) ∧ w' = W := by
  have hml : cap ≤ 9223372036854775807 := by simpa [maxLen] using hm
  go_enter Try.func44, Try.ntmps44
  go_wp2_with fail
  go_loop [5] (fun i => ∃ k : Nat, k ≤ j ∧ i = .int .i64 k) (fun i => n - (intOf i).toNat)
  case atStart => exact ⟨0, by omega, rfl⟩
  case round =>
    obtain ⟨k, hk, rfl⟩ := hrel
    have ck := h k (by omega)
    have hlt : k < n := by omega
    by_cases e : f k = x
    · rw [e] at ck
      clear h hx e
      go_wp2_with fail
      go_ret
      exact ret_of rfl
    · have hkj : k ≠ j := by intro c; subst c; exact e hx
      have e' : (f k == x) = false := by simp [e]
      clear hx
      go_wp2_with fail
      go_round
      case rel => exact ⟨k + 1, by omega, by go_num⟩
      case measure => simp [intOf]; omega

set_option maxHeartbeats 400000 in
theorem among_i32_nil (W : World) : Calls Try.prog 45 #[.slice none 0 0, .int .i32 0] W fun e w' => e = .returned (.bool true) ∧ w' = W := by
  go_enter Try.func45, Try.ntmps45
  go_wp2_with fail
  go_loop [5] (fun i => i = .int .i64 0) (fun _ => 0)
  case atStart => exact rfl
  case round =>
    obtain rfl := hrel
    go_wp2_with fail
    go_ret
    exact ret_of rfl

set_option maxHeartbeats 400000 in
theorem among_i32 (g n cap : Nat) (f : Nat → Int) (W : World) (x : Int) (j : Nat) (hj : j < n) (hx : f j = x) (hc : n ≤ cap) (hm : cap ≤ maxLen) (h : ∀ j, j < n → W.cell? ⟨g, j, none⟩ = some (.int .i32 (f j))) :
    Calls Try.prog 45 #[.slice (some ⟨g, 0, none⟩) n cap, .int .i32 x] W fun e w' => e = .returned (.bool true) ∧ w' = W := by
  have hml : cap ≤ 9223372036854775807 := by simpa [maxLen] using hm
  go_enter Try.func45, Try.ntmps45
  go_wp2_with fail
  go_loop [5] (fun i => ∃ k : Nat, k ≤ j ∧ i = .int .i64 k) (fun i => n - (intOf i).toNat)
  case atStart => exact ⟨0, by omega, rfl⟩
  case round =>
    obtain ⟨k, hk, rfl⟩ := hrel
    have ck := h k (by omega)
    have hlt : k < n := by omega
    by_cases e : f k = x
    · rw [e] at ck
      clear h hx e
      go_wp2_with fail
      go_ret
      exact ret_of rfl
    · have hkj : k ≠ j := by intro c; subst c; exact e hx
      have e' : (f k == x) = false := by simp [e]
      clear hx
      go_wp2_with fail
      go_round
      case rel => exact ⟨k + 1, by omega, by go_num⟩
      case measure => simp [intOf]; omega

set_option maxHeartbeats 400000 in
theorem among_i64_nil (W : World) : Calls Try.prog 46 #[.slice none 0 0, .int .i64 0] W fun e w' => e = .returned (.bool true) ∧ w' = W := by
  go_enter Try.func46, Try.ntmps46
  go_wp2_with fail
  go_loop [5] (fun i => i = .int .i64 0) (fun _ => 0)
  case atStart => exact rfl
  case round =>
    obtain rfl := hrel
    go_wp2_with fail
    go_ret
    exact ret_of rfl

set_option maxHeartbeats 400000 in
theorem among_i64 (g n cap : Nat) (f : Nat → Int) (W : World) (x : Int) (j : Nat) (hj : j < n) (hx : f j = x) (hc : n ≤ cap) (hm : cap ≤ maxLen) (h : ∀ j, j < n → W.cell? ⟨g, j, none⟩ = some (.int .i64 (f j))) :
    Calls Try.prog 46 #[.slice (some ⟨g, 0, none⟩) n cap, .int .i64 x] W fun e w' => e = .returned (.bool true) ∧ w' = W := by
  have hml : cap ≤ 9223372036854775807 := by simpa [maxLen] using hm
  go_enter Try.func46, Try.ntmps46
  go_wp2_with fail
  go_loop [5] (fun i => ∃ k : Nat, k ≤ j ∧ i = .int .i64 k) (fun i => n - (intOf i).toNat)
  case atStart => exact ⟨0, by omega, rfl⟩
  case round =>
    obtain ⟨k, hk, rfl⟩ := hrel
    have ck := h k (by omega)
    have hlt : k < n := by omega
    by_cases e : f k = x
    · rw [e] at ck
      clear h hx e
      go_wp2_with fail
      go_ret
      exact ret_of rfl
    · have hkj : k ≠ j := by intro c; subst c; exact e hx
      have e' : (f k == x) = false := by simp [e]
      clear hx
      go_wp2_with fail
      go_round
      case rel => exact ⟨k + 1, by omega, by go_num⟩
      case measure => simp [intOf]; omega

end Go.Proofs.Ytiijfmldmggccaa
