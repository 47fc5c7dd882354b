
/- The law SkipLevels walked (layer 22). No statement of the seat is proved here. -/
import Derived.Test.YtjgibkofenkehaaSkS
namespace Go.Proofs.Ytjgibkofenkehaa
open Go.RowKit

/-- How many of the numbers, from the front on, are odd. -/
def odds : List Int → Nat
  | [] => 0
  | x :: l => if x % 2 = 1 then odds l + 1 else 0
theorem odds_le : ∀ l : List Int, odds l ≤ l.length
  | [] => Nat.le_refl _
  | x :: l => by unfold odds; have := odds_le l; split <;> simp; omega
theorem odds_at {l : List Int} : ∀ {k : Nat}, k < odds l → (oat l k) % 2 = 1 := by
  induction l with
  | nil => intro k h; simp [odds] at h
  | cons x l ih =>
    intro k h
    unfold odds at h
    split at h
    · cases k with
      | zero => simpa [oat] using ‹_›
      | succ k => have := ih (k := k) (by omega); simpa [oat] using this
    · omega
theorem odds_stop {l : List Int} (h : odds l < l.length) : ¬ (oat l (odds l)) % 2 = 1 := by
  induction l with
  | nil => simp at h
  | cons x l ih =>
    unfold odds at h ⊢
    split
    · rename_i hx
      rw [if_pos hx] at h
      have := ih (by simp at h; omega)
      simpa [oat] using this
    · rename_i hx
      simpa [oat] using hx
def levN (l : List Int) : Nat := min (odds l + 1) 8
set_option maxHeartbeats 1000000 in
theorem rlevel_any (v : Value) (l : List Int) (hw : ∀ x ∈ l, isW x) (hl : l.length ≤ 17592186044416) (w : World) (h : Lies w v l) :
    Calls Try.prog 23 #[v] w fun e w' => e = .returned (.int .i64 (levN l : Int)) ∧ w' = w := by
  obtain ⟨a, c, rfl, ha⟩ := h
  have HA := hid ha
  clear ha
  have hol := odds_le l
  go_enter Try.func23, Try.ntmps23
  go_wp2_with fail
  go_loopw [3] (fun i wr => ∃ k : Nat, k ≤ odds l ∧ i = .int .i64 k ∧ wr = w) (fun i _ => l.length - (intOf i).toNat)
  case atStart => exact ⟨0, by omega, rfl, rfl⟩
  case round =>
    obtain ⟨k, hk, rfl, rfl⟩ := hrel
    by_cases hlt : k < l.length
    · have hki : (k : Int) < (l.length : Int) := by omega
      obtain ⟨g, off, rfl, d1⟩ := HA.out k hlt
      have hwx := oat_isW hw k
      unfold isW at hwx
      by_cases ho : k < odds l
      · have hodd := odds_at ho
        have hmod : IntKind.u64.wrap ((oat l k).tmod 2) = 1 := by rw [IntKind.wrap_u64, Int.tmod_eq_emod_of_nonneg hwx.1]; omega
        have hwk : IntKind.i64.wrap ((k : Int) + 1) = (k : Int) + 1 := by rw [IntKind.wrap_i64]; omega
        clear HA
        go_wp2_with fail
        go_roundw
        case rel => exact ⟨k + 1, by omega, by simp, trivial⟩
        case measure => simp [intOf]; omega
      · obtain rfl : k = odds l := by omega
        have hst := odds_stop hlt
        have hmod : IntKind.u64.wrap ((oat l (odds l)).tmod 2) = 0 := by rw [IntKind.wrap_u64, Int.tmod_eq_emod_of_nonneg hwx.1]; omega
        have hwk : IntKind.i64.wrap ((odds l : Int) + 1) = (odds l : Int) + 1 := by rw [IntKind.wrap_i64]; omega
        have hmn : (if (8 : Int) < (odds l : Int) + 1 then (8 : Int) else (odds l : Int) + 1) = (levN l : Int) := by unfold levN; omega
        clear HA
        go_wp2_with fail
        go_ret
        exact ⟨rfl, rfl⟩
    · obtain rfl : k = odds l := by omega
      have hki : ¬ (odds l : Int) < (l.length : Int) := by omega
      have hwk : IntKind.i64.wrap ((odds l : Int) + 1) = (odds l : Int) + 1 := by rw [IntKind.wrap_i64]; omega
      have hmn : (if (8 : Int) < (odds l : Int) + 1 then (8 : Int) else (odds l : Int) + 1) = (levN l : Int) := by unfold levN; omega
      clear HA
      go_wp2_with fail
      go_ret
      exact ⟨rfl, rfl⟩
set_option maxHeartbeats 1000000 in
theorem level_any (v : Value) (l : List Int) (hw : ∀ x ∈ l, isW x) (hl : l.length ≤ 17592186044416) (w : World) (h : Lies w v l) :
    Calls Try.prog 22 #[v] w fun e w' => e = .returned (.int .i64 (levN l : Int)) ∧ w' = w := by
  obtain ⟨a, c, rfl, ha⟩ := h
  have HA := hid ha
  clear ha
  have hol := odds_le l
  go_enter Try.func22, Try.ntmps22
  go_wp2_with fail
  go_loopw [3, 8] (fun lv i wr => ∃ k : Nat, k ≤ odds l ∧ k ≤ 7 ∧ lv = .int .i64 ((k : Int) + 1) ∧ i = .int .i64 k ∧ wr = w) (fun _ i _ => l.length - (intOf i).toNat)
  case atStart => exact ⟨0, by omega, by omega, rfl, rfl, rfl⟩
  case round =>
    obtain ⟨k, hk, hk7, rfl, rfl, rfl⟩ := hrel
    by_cases hlt : k < l.length
    · have hki : (k : Int) < (l.length : Int) := by omega
      obtain ⟨g, off, rfl, d1⟩ := HA.out k hlt
      have hwx := oat_isW hw k
      unfold isW at hwx
      by_cases h7 : k = 7
      · subst h7
        have hle : (levN l : Int) = 8 := by unfold levN; omega
        clear HA
        go_wp2_with fail
        go_ret
        rw [hle]
        exact ⟨rfl, rfl⟩
      · have h7b : ((k : Int) + 1 == 8) = false := by simp; omega
        by_cases ho : k < odds l
        · have hodd := odds_at ho
          have hmod : IntKind.u64.wrap ((oat l k).tmod 2) = 1 := by rw [IntKind.wrap_u64, Int.tmod_eq_emod_of_nonneg hwx.1]; omega
          have hwk : IntKind.i64.wrap ((k : Int) + 1) = (k : Int) + 1 := by rw [IntKind.wrap_i64]; omega
          have hwk2 : IntKind.i64.wrap ((k : Int) + 1 + 1) = (k : Int) + 1 + 1 := by rw [IntKind.wrap_i64]; omega
          clear HA
          go_wp2_with fail
          go_roundw
          case rel => exact ⟨k + 1, by omega, by omega, by simp, by simp, trivial⟩
          case measure => simp [intOf]; omega
        · obtain rfl : k = odds l := by omega
          have hst := odds_stop hlt
          have hmod : IntKind.u64.wrap ((oat l (odds l)).tmod 2) = 0 := by rw [IntKind.wrap_u64, Int.tmod_eq_emod_of_nonneg hwx.1]; omega
          have hle : (levN l : Int) = (odds l : Int) + 1 := by unfold levN; omega
          clear HA
          go_wp2_with fail
          go_ret
          rw [hle]
          exact ⟨rfl, rfl⟩
    · have hk2 : k = odds l := by omega
      have hki : ¬ (k : Int) < (l.length : Int) := by omega
      have hle : (levN l : Int) = (k : Int) + 1 := by unfold levN; omega
      clear HA
      go_wp2_with fail
      go_ret
      try rw [hle]
      exact ⟨rfl, rfl⟩
end Go.Proofs.Ytjgibkofenkehaa
