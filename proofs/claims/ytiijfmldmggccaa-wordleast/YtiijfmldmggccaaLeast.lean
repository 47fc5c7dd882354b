/- The walks of Least, of each kind of numbers. No statement of the seat is proved here. -/
import Derived.Test.YtiijfmldmggccaaAhead
namespace Go.Proofs.Ytiijfmldmggccaa
open Go.RowKit Ieee

/-- The least of the first ones, by a comparison. -/
def lst {α : Type} (lt : α → α → Bool) (f : Nat → α) : Nat → α
  | 0 => f 0
  | k + 1 => if lt (f (k + 1)) (lst lt f k) = true then f (k + 1) else lst lt f k
theorem lst_yes {α : Type} {lt : α → α → Bool} {f : Nat → α} {k : Nat} (h : lt (f (k + 1)) (lst lt f k) = true) : lst lt f (k + 1) = f (k + 1) := if_pos h
theorem lst_no {α : Type} {lt : α → α → Bool} {f : Nat → α} {k : Nat} (h : lt (f (k + 1)) (lst lt f k) = false) : lst lt f (k + 1) = lst lt f k := if_neg (by rw [h]; simp)
theorem lst_among {α : Type} (lt : α → α → Bool) (f : Nat → α) : ∀ k, ∃ j, j ≤ k ∧ lst lt f k = f j
  | 0 => ⟨0, Nat.le_refl _, rfl⟩
  | k + 1 => by
    obtain ⟨j, hj, e⟩ := lst_among lt f k
    cases c : lt (f (k + 1)) (lst lt f k)
    · exact ⟨j, by omega, by rw [lst_no c, e]⟩
    · exact ⟨k + 1, Nat.le_refl _, lst_yes c⟩

/-- The comparisons. -/
def ltI (a b : Int) : Bool := decide (a < b)
def ltF (a b : Nat) : Bool := decide (ofR a < ofR b)
def ltS (a b : Nat) : Bool := decide (ofR32 a < ofR32 b)

theorem lst_le (f : Nat → Int) : ∀ k j, j ≤ k → lst ltI f k ≤ f j
  | 0, j, h => by obtain rfl : j = 0 := by omega
                  exact Int.le_refl _
  | k + 1, j, h => by
    cases c : ltI (f (k + 1)) (lst ltI f k)
    · rw [lst_no c]
      by_cases e : j = k + 1
      · subst e; simp [ltI] at c; exact c
      · exact lst_le f k j (by omega)
    · rw [lst_yes c]
      by_cases e : j = k + 1
      · subst e; exact Int.le_refl _
      · have := lst_le f k j (by omega)
        simp [ltI] at c; omega

set_option maxHeartbeats 400000 in
theorem least_i8_nil (W : World) : Calls Try.prog 39 #[.slice none 0 0] W fun e w' => e = .returned (.tuple #[.int .i8 0, .bool false]) ∧ w' = W := by
  go_enter Try.func39, Try.ntmps39
  go_wp2_with fail
  go_ret2
  exact ret2_of rfl rfl

set_option maxHeartbeats 400000 in
theorem least_i8 (g n cap : Nat) (f : Nat → Int) (W : World) (h1 : 1 ≤ n) (hc : n ≤ cap) (hm : cap ≤ maxLen) (hf : ∀ j, -128 ≤ f j ∧ f j < 128) (h : ∀ j, j < n → W.cell? ⟨g, j, none⟩ = some (.int .i8 (f j))) :
    Calls Try.prog 39 #[.slice (some ⟨g, 0, none⟩) n cap] W fun e w' => e = .returned (.tuple #[.int .i8 (lst ltI f (n - 1)), .bool true]) ∧ w' = W := by
  have c0 := h 0 (by omega)
  have hml : cap ≤ 9223372036854775807 := by simpa [maxLen] using hm
  have hn0 : ((n : Int) == 0) = false := by simp; omega
  go_enter Try.func39, Try.ntmps39
  by_cases n1 : n = 1
  · subst n1
    by_cases hc1 : cap = 1
    · subst hc1
      go_wp2_with fail
      go_loop [4, 16] (fun l i => i = .int .i64 0 ∧ l = .int .i8 (f 0)) (fun _ _ => 0)
      case atStart => exact ⟨rfl, rfl⟩
      case round =>
        obtain ⟨rfl, rfl⟩ := hrel
        go_wp2_with fail
        go_ret2
        exact ret2_of rfl rfl
    · go_wp2_with fail
      go_loop [4, 16] (fun l i => i = .int .i64 0 ∧ l = .int .i8 (f 0)) (fun _ _ => 0)
      case atStart => exact ⟨rfl, rfl⟩
      case round =>
        obtain ⟨rfl, rfl⟩ := hrel
        go_wp2_with fail
        go_ret2
        exact ret2_of rfl rfl
  · have hc1 : ¬ cap = 1 := by omega
    go_wp2_with fail
    go_loop [4, 16] (fun l i => ∃ k : Nat, k ≤ n - 1 ∧ i = .int .i64 k ∧ l = .int .i8 (lst ltI f k)) (fun _ i => n - (intOf i).toNat)
    case atStart => exact ⟨0, by omega, rfl, rfl⟩
    case round =>
      obtain ⟨k, hk, rfl, rfl⟩ := hrel
      by_cases hlt : k < n - 1
      · have ck : W.cell? ⟨g, 1 + k, none⟩ = some (.int .i8 (f (k + 1))) := by rw [Nat.add_comm]; exact h (k + 1) (by omega)
        have HS : Hid (lst ltI f (k + 1) = if ltI (f (k + 1)) (lst ltI f k) = true then f (k + 1) else lst ltI f k) := rfl
        generalize lst ltI f k = l at *
        go_wp2_with fail
        refine (ahead_i8 _ _ _ (hf _)).mono ?_
        rintro e w' ⟨rfl, rfl⟩
        cases c : ltI (f (k + 1)) l
        · rw [show decide (f (k + 1) < l) = false from c]
          go_wp2_with fail
          go_round
          case rel => exact ⟨k + 1, by omega, by go_num, by rw [HS.out, c]; rfl⟩
          case measure => simp [intOf]; omega
        · rw [show decide (f (k + 1) < l) = true from c]
          go_wp2_with fail
          go_round
          case rel => exact ⟨k + 1, by omega, by go_num, by rw [HS.out, c]; rfl⟩
          case measure => simp [intOf]; omega
      · obtain rfl : k = n - 1 := by omega
        go_wp2_with fail
        go_ret2
        exact ret2_of rfl rfl

set_option maxHeartbeats 400000 in
theorem least_i16_nil (W : World) : Calls Try.prog 40 #[.slice none 0 0] W fun e w' => e = .returned (.tuple #[.int .i16 0, .bool false]) ∧ w' = W := by
  go_enter Try.func40, Try.ntmps40
  go_wp2_with fail
  go_ret2
  exact ret2_of rfl rfl

set_option maxHeartbeats 400000 in
theorem least_i16 (g n cap : Nat) (f : Nat → Int) (W : World) (h1 : 1 ≤ n) (hc : n ≤ cap) (hm : cap ≤ maxLen) (hf : ∀ j, -32768 ≤ f j ∧ f j < 32768) (h : ∀ j, j < n → W.cell? ⟨g, j, none⟩ = some (.int .i16 (f j))) :
    Calls Try.prog 40 #[.slice (some ⟨g, 0, none⟩) n cap] W fun e w' => e = .returned (.tuple #[.int .i16 (lst ltI f (n - 1)), .bool true]) ∧ w' = W := by
  have c0 := h 0 (by omega)
  have hml : cap ≤ 9223372036854775807 := by simpa [maxLen] using hm
  have hn0 : ((n : Int) == 0) = false := by simp; omega
  go_enter Try.func40, Try.ntmps40
  by_cases n1 : n = 1
  · subst n1
    by_cases hc1 : cap = 1
    · subst hc1
      go_wp2_with fail
      go_loop [4, 16] (fun l i => i = .int .i64 0 ∧ l = .int .i16 (f 0)) (fun _ _ => 0)
      case atStart => exact ⟨rfl, rfl⟩
      case round =>
        obtain ⟨rfl, rfl⟩ := hrel
        go_wp2_with fail
        go_ret2
        exact ret2_of rfl rfl
    · go_wp2_with fail
      go_loop [4, 16] (fun l i => i = .int .i64 0 ∧ l = .int .i16 (f 0)) (fun _ _ => 0)
      case atStart => exact ⟨rfl, rfl⟩
      case round =>
        obtain ⟨rfl, rfl⟩ := hrel
        go_wp2_with fail
        go_ret2
        exact ret2_of rfl rfl
  · have hc1 : ¬ cap = 1 := by omega
    go_wp2_with fail
    go_loop [4, 16] (fun l i => ∃ k : Nat, k ≤ n - 1 ∧ i = .int .i64 k ∧ l = .int .i16 (lst ltI f k)) (fun _ i => n - (intOf i).toNat)
    case atStart => exact ⟨0, by omega, rfl, rfl⟩
    case round =>
      obtain ⟨k, hk, rfl, rfl⟩ := hrel
      by_cases hlt : k < n - 1
      · have ck : W.cell? ⟨g, 1 + k, none⟩ = some (.int .i16 (f (k + 1))) := by rw [Nat.add_comm]; exact h (k + 1) (by omega)
        have HS : Hid (lst ltI f (k + 1) = if ltI (f (k + 1)) (lst ltI f k) = true then f (k + 1) else lst ltI f k) := rfl
        generalize lst ltI f k = l at *
        go_wp2_with fail
        refine (ahead_i16 _ _ _ (hf _)).mono ?_
        rintro e w' ⟨rfl, rfl⟩
        cases c : ltI (f (k + 1)) l
        · rw [show decide (f (k + 1) < l) = false from c]
          go_wp2_with fail
          go_round
          case rel => exact ⟨k + 1, by omega, by go_num, by rw [HS.out, c]; rfl⟩
          case measure => simp [intOf]; omega
        · rw [show decide (f (k + 1) < l) = true from c]
          go_wp2_with fail
          go_round
          case rel => exact ⟨k + 1, by omega, by go_num, by rw [HS.out, c]; rfl⟩
          case measure => simp [intOf]; omega
      · obtain rfl : k = n - 1 := by omega
        go_wp2_with fail
        go_ret2
        exact ret2_of rfl rfl

set_option maxHeartbeats 400000 in
theorem least_i32_nil (W : World) : Calls Try.prog 41 #[.slice none 0 0] W fun e w' => e = .returned (.tuple #[.int .i32 0, .bool false]) ∧ w' = W := by
  go_enter Try.func41, Try.ntmps41
  go_wp2_with fail
  go_ret2
  exact ret2_of rfl rfl

set_option maxHeartbeats 400000 in
theorem least_i32 (g n cap : Nat) (f : Nat → Int) (W : World) (h1 : 1 ≤ n) (hc : n ≤ cap) (hm : cap ≤ maxLen) (hf : ∀ j, -2147483648 ≤ f j ∧ f j < 2147483648) (h : ∀ j, j < n → W.cell? ⟨g, j, none⟩ = some (.int .i32 (f j))) :
    Calls Try.prog 41 #[.slice (some ⟨g, 0, none⟩) n cap] W fun e w' => e = .returned (.tuple #[.int .i32 (lst ltI f (n - 1)), .bool true]) ∧ w' = W := by
  have c0 := h 0 (by omega)
  have hml : cap ≤ 9223372036854775807 := by simpa [maxLen] using hm
  have hn0 : ((n : Int) == 0) = false := by simp; omega
  go_enter Try.func41, Try.ntmps41
  by_cases n1 : n = 1
  · subst n1
    by_cases hc1 : cap = 1
    · subst hc1
      go_wp2_with fail
      go_loop [4, 16] (fun l i => i = .int .i64 0 ∧ l = .int .i32 (f 0)) (fun _ _ => 0)
      case atStart => exact ⟨rfl, rfl⟩
      case round =>
        obtain ⟨rfl, rfl⟩ := hrel
        go_wp2_with fail
        go_ret2
        exact ret2_of rfl rfl
    · go_wp2_with fail
      go_loop [4, 16] (fun l i => i = .int .i64 0 ∧ l = .int .i32 (f 0)) (fun _ _ => 0)
      case atStart => exact ⟨rfl, rfl⟩
      case round =>
        obtain ⟨rfl, rfl⟩ := hrel
        go_wp2_with fail
        go_ret2
        exact ret2_of rfl rfl
  · have hc1 : ¬ cap = 1 := by omega
    go_wp2_with fail
    go_loop [4, 16] (fun l i => ∃ k : Nat, k ≤ n - 1 ∧ i = .int .i64 k ∧ l = .int .i32 (lst ltI f k)) (fun _ i => n - (intOf i).toNat)
    case atStart => exact ⟨0, by omega, rfl, rfl⟩
    case round =>
      obtain ⟨k, hk, rfl, rfl⟩ := hrel
      by_cases hlt : k < n - 1
      · have ck : W.cell? ⟨g, 1 + k, none⟩ = some (.int .i32 (f (k + 1))) := by rw [Nat.add_comm]; exact h (k + 1) (by omega)
        have HS : Hid (lst ltI f (k + 1) = if ltI (f (k + 1)) (lst ltI f k) = true then f (k + 1) else lst ltI f k) := rfl
        generalize lst ltI f k = l at *
        go_wp2_with fail
        refine (ahead_i32 _ _ _ (hf _)).mono ?_
        rintro e w' ⟨rfl, rfl⟩
        cases c : ltI (f (k + 1)) l
        · rw [show decide (f (k + 1) < l) = false from c]
          go_wp2_with fail
          go_round
          case rel => exact ⟨k + 1, by omega, by go_num, by rw [HS.out, c]; rfl⟩
          case measure => simp [intOf]; omega
        · rw [show decide (f (k + 1) < l) = true from c]
          go_wp2_with fail
          go_round
          case rel => exact ⟨k + 1, by omega, by go_num, by rw [HS.out, c]; rfl⟩
          case measure => simp [intOf]; omega
      · obtain rfl : k = n - 1 := by omega
        go_wp2_with fail
        go_ret2
        exact ret2_of rfl rfl

set_option maxHeartbeats 400000 in
theorem least_i64_nil (W : World) : Calls Try.prog 42 #[.slice none 0 0] W fun e w' => e = .returned (.tuple #[.int .i64 0, .bool false]) ∧ w' = W := by
  go_enter Try.func42, Try.ntmps42
  go_wp2_with fail
  go_ret2
  exact ret2_of rfl rfl

set_option maxHeartbeats 400000 in
theorem least_i64 (g n cap : Nat) (f : Nat → Int) (W : World) (h1 : 1 ≤ n) (hc : n ≤ cap) (hm : cap ≤ maxLen) (hf : ∀ j, -9223372036854775808 ≤ f j ∧ f j < 9223372036854775808) (h : ∀ j, j < n → W.cell? ⟨g, j, none⟩ = some (.int .i64 (f j))) :
    Calls Try.prog 42 #[.slice (some ⟨g, 0, none⟩) n cap] W fun e w' => e = .returned (.tuple #[.int .i64 (lst ltI f (n - 1)), .bool true]) ∧ w' = W := by
  have c0 := h 0 (by omega)
  have hml : cap ≤ 9223372036854775807 := by simpa [maxLen] using hm
  have hn0 : ((n : Int) == 0) = false := by simp; omega
  go_enter Try.func42, Try.ntmps42
  by_cases n1 : n = 1
  · subst n1
    by_cases hc1 : cap = 1
    · subst hc1
      go_wp2_with fail
      go_loop [4, 16] (fun l i => i = .int .i64 0 ∧ l = .int .i64 (f 0)) (fun _ _ => 0)
      case atStart => exact ⟨rfl, rfl⟩
      case round =>
        obtain ⟨rfl, rfl⟩ := hrel
        go_wp2_with fail
        go_ret2
        exact ret2_of rfl rfl
    · go_wp2_with fail
      go_loop [4, 16] (fun l i => i = .int .i64 0 ∧ l = .int .i64 (f 0)) (fun _ _ => 0)
      case atStart => exact ⟨rfl, rfl⟩
      case round =>
        obtain ⟨rfl, rfl⟩ := hrel
        go_wp2_with fail
        go_ret2
        exact ret2_of rfl rfl
  · have hc1 : ¬ cap = 1 := by omega
    go_wp2_with fail
    go_loop [4, 16] (fun l i => ∃ k : Nat, k ≤ n - 1 ∧ i = .int .i64 k ∧ l = .int .i64 (lst ltI f k)) (fun _ i => n - (intOf i).toNat)
    case atStart => exact ⟨0, by omega, rfl, rfl⟩
    case round =>
      obtain ⟨k, hk, rfl, rfl⟩ := hrel
      by_cases hlt : k < n - 1
      · have ck : W.cell? ⟨g, 1 + k, none⟩ = some (.int .i64 (f (k + 1))) := by rw [Nat.add_comm]; exact h (k + 1) (by omega)
        have HS : Hid (lst ltI f (k + 1) = if ltI (f (k + 1)) (lst ltI f k) = true then f (k + 1) else lst ltI f k) := rfl
        generalize lst ltI f k = l at *
        go_wp2_with fail
        refine (ahead_i64 _ _ _ (hf _)).mono ?_
        rintro e w' ⟨rfl, rfl⟩
        cases c : ltI (f (k + 1)) l
        · rw [show decide (f (k + 1) < l) = false from c]
          go_wp2_with fail
          go_round
          case rel => exact ⟨k + 1, by omega, by go_num, by rw [HS.out, c]; rfl⟩
          case measure => simp [intOf]; omega
        · rw [show decide (f (k + 1) < l) = true from c]
          go_wp2_with fail
          go_round
          case rel => exact ⟨k + 1, by omega, by go_num, by rw [HS.out, c]; rfl⟩
          case measure => simp [intOf]; omega
      · obtain rfl : k = n - 1 := by omega
        go_wp2_with fail
        go_ret2
        exact ret2_of rfl rfl

set_option maxHeartbeats 400000 in
theorem least_f64_nil (W : World) : Calls Try.prog 36 #[.slice none 0 0] W fun e w' => e = .returned (.tuple #[.float .f64 0, .bool false]) ∧ w' = W := by
  go_enter Try.func36, Try.ntmps36
  go_wp2_with fail
  go_ret2
  exact ret2_of rfl rfl

set_option maxHeartbeats 400000 in
theorem least_f64 (g n cap : Nat) (f : Nat → Nat) (W : World) (h1 : 1 ≤ n) (hc : n ≤ cap) (hm : cap ≤ maxLen) (hf : ∀ j, f j < 18446744073709551616) (h : ∀ j, j < n → W.cell? ⟨g, j, none⟩ = some (.float .f64 (f j))) :
    Calls Try.prog 36 #[.slice (some ⟨g, 0, none⟩) n cap] W fun e w' => e = .returned (.tuple #[.float .f64 (lst ltF f (n - 1)), .bool true]) ∧ w' = W := by
  have c0 := h 0 (by omega)
  have hml : cap ≤ 9223372036854775807 := by simpa [maxLen] using hm
  have hn0 : ((n : Int) == 0) = false := by simp; omega
  go_enter Try.func36, Try.ntmps36
  by_cases n1 : n = 1
  · subst n1
    by_cases hc1 : cap = 1
    · subst hc1
      go_wp2_with fail
      go_loop [4, 16] (fun l i => i = .int .i64 0 ∧ l = .float .f64 (f 0)) (fun _ _ => 0)
      case atStart => exact ⟨rfl, rfl⟩
      case round =>
        obtain ⟨rfl, rfl⟩ := hrel
        go_wp2_with fail
        go_ret2
        exact ret2_of rfl rfl
    · go_wp2_with fail
      go_loop [4, 16] (fun l i => i = .int .i64 0 ∧ l = .float .f64 (f 0)) (fun _ _ => 0)
      case atStart => exact ⟨rfl, rfl⟩
      case round =>
        obtain ⟨rfl, rfl⟩ := hrel
        go_wp2_with fail
        go_ret2
        exact ret2_of rfl rfl
  · have hc1 : ¬ cap = 1 := by omega
    go_wp2_with fail
    go_loop [4, 16] (fun l i => ∃ k : Nat, k ≤ n - 1 ∧ i = .int .i64 k ∧ l = .float .f64 (lst ltF f k)) (fun _ i => n - (intOf i).toNat)
    case atStart => exact ⟨0, by omega, rfl, rfl⟩
    case round =>
      obtain ⟨k, hk, rfl, rfl⟩ := hrel
      by_cases hlt : k < n - 1
      · have ck : W.cell? ⟨g, 1 + k, none⟩ = some (.float .f64 (f (k + 1))) := by rw [Nat.add_comm]; exact h (k + 1) (by omega)
        have hl : lst ltF f k < 18446744073709551616 := by obtain ⟨j, _, e⟩ := lst_among ltF f k; rw [e]; exact hf j
        have HS : Hid (lst ltF f (k + 1) = if ltF (f (k + 1)) (lst ltF f k) = true then f (k + 1) else lst ltF f k) := rfl
        generalize lst ltF f k = l at *
        go_wp2_with fail
        refine (ahead_f64 _ _ _ (hf _) hl).mono ?_
        rintro e w' ⟨rfl, rfl⟩
        cases c : ltF (f (k + 1)) l
        · rw [show decide (ofR (f (k + 1)) < ofR l) = false from c]
          go_wp2_with fail
          go_round
          case rel => exact ⟨k + 1, by omega, by go_num, by rw [HS.out, c]; rfl⟩
          case measure => simp [intOf]; omega
        · rw [show decide (ofR (f (k + 1)) < ofR l) = true from c]
          go_wp2_with fail
          go_round
          case rel => exact ⟨k + 1, by omega, by go_num, by rw [HS.out, c]; rfl⟩
          case measure => simp [intOf]; omega
      · obtain rfl : k = n - 1 := by omega
        go_wp2_with fail
        go_ret2
        exact ret2_of rfl rfl

set_option maxHeartbeats 400000 in
theorem least_f32_nil (W : World) : Calls Try.prog 38 #[.slice none 0 0] W fun e w' => e = .returned (.tuple #[.float .f32 0, .bool false]) ∧ w' = W := by
  go_enter Try.func38, Try.ntmps38
  go_wp2_with fail
  go_ret2
  exact ret2_of rfl rfl

set_option maxHeartbeats 400000 in
theorem least_f32 (g n cap : Nat) (f : Nat → Nat) (W : World) (h1 : 1 ≤ n) (hc : n ≤ cap) (hm : cap ≤ maxLen) (hf : ∀ j, f j < 4294967296) (h : ∀ j, j < n → W.cell? ⟨g, j, none⟩ = some (.float .f32 (f j))) :
    Calls Try.prog 38 #[.slice (some ⟨g, 0, none⟩) n cap] W fun e w' => e = .returned (.tuple #[.float .f32 (lst ltS f (n - 1)), .bool true]) ∧ w' = W := by
  have c0 := h 0 (by omega)
  have hml : cap ≤ 9223372036854775807 := by simpa [maxLen] using hm
  have hn0 : ((n : Int) == 0) = false := by simp; omega
  go_enter Try.func38, Try.ntmps38
  by_cases n1 : n = 1
  · subst n1
    by_cases hc1 : cap = 1
    · subst hc1
      go_wp2_with fail
      go_loop [4, 16] (fun l i => i = .int .i64 0 ∧ l = .float .f32 (f 0)) (fun _ _ => 0)
      case atStart => exact ⟨rfl, rfl⟩
      case round =>
        obtain ⟨rfl, rfl⟩ := hrel
        go_wp2_with fail
        go_ret2
        exact ret2_of rfl rfl
    · go_wp2_with fail
      go_loop [4, 16] (fun l i => i = .int .i64 0 ∧ l = .float .f32 (f 0)) (fun _ _ => 0)
      case atStart => exact ⟨rfl, rfl⟩
      case round =>
        obtain ⟨rfl, rfl⟩ := hrel
        go_wp2_with fail
        go_ret2
        exact ret2_of rfl rfl
  · have hc1 : ¬ cap = 1 := by omega
    go_wp2_with fail
    go_loop [4, 16] (fun l i => ∃ k : Nat, k ≤ n - 1 ∧ i = .int .i64 k ∧ l = .float .f32 (lst ltS f k)) (fun _ i => n - (intOf i).toNat)
    case atStart => exact ⟨0, by omega, rfl, rfl⟩
    case round =>
      obtain ⟨k, hk, rfl, rfl⟩ := hrel
      by_cases hlt : k < n - 1
      · have ck : W.cell? ⟨g, 1 + k, none⟩ = some (.float .f32 (f (k + 1))) := by rw [Nat.add_comm]; exact h (k + 1) (by omega)
        have hl : lst ltS f k < 4294967296 := by obtain ⟨j, _, e⟩ := lst_among ltS f k; rw [e]; exact hf j
        have HS : Hid (lst ltS f (k + 1) = if ltS (f (k + 1)) (lst ltS f k) = true then f (k + 1) else lst ltS f k) := rfl
        generalize lst ltS f k = l at *
        go_wp2_with fail
        refine (ahead_f32 _ _ _ (hf _) hl).mono ?_
        rintro e w' ⟨rfl, rfl⟩
        cases c : ltS (f (k + 1)) l
        · rw [show decide (ofR32 (f (k + 1)) < ofR32 l) = false from c]
          go_wp2_with fail
          go_round
          case rel => exact ⟨k + 1, by omega, by go_num, by rw [HS.out, c]; rfl⟩
          case measure => simp [intOf]; omega
        · rw [show decide (ofR32 (f (k + 1)) < ofR32 l) = true from c]
          go_wp2_with fail
          go_round
          case rel => exact ⟨k + 1, by omega, by go_num, by rw [HS.out, c]; rfl⟩
          case measure => simp [intOf]; omega
      · obtain rfl : k = n - 1 := by omega
        go_wp2_with fail
        go_ret2
        exact ret2_of rfl rfl

end Go.Proofs.Ytiijfmldmggccaa
