/-
  The walk of the program's Sum (package cells): the sum of a row, byte by byte. No statement of the seat is proved here.
-/
import Derived.Test.YtmffkcbdgpaieaaRowF
namespace Go.Proofs.Ytmffkcbdgpaieaa
open Go.RowKit

/-- One byte taken into the sum. -/
def mix (s x : Int) : Int := IntKind.u64.wrap (bits BinOp.xor IntKind.u64 s (bits BinOp.and IntKind.u64 x 255) * 1099511628211)
/-- The first k bytes of a word taken into the sum. -/
def mixTo (s y : Int) : Nat → Int
  | 0 => s
  | k + 1 => mix (mixTo s y k) (y / 256 ^ k)
/-- The first k words taken into the sum. -/
def sumTo (ws : List Int) : Nat → Int
  | 0 => 14695981039346656037
  | k + 1 => mixTo (sumTo ws k) (ws[k]?.getD 0) 8

/-- Each is a word. -/
def Wf (ws : List Int) : Prop := ∀ x ∈ ws, 0 ≤ x ∧ x ≤ 18446744073709551615
theorem Wf.get {ws : List Int} (h : Wf ws) (k : Nat) : 0 ≤ ws[k]?.getD 0 ∧ ws[k]?.getD 0 ≤ 18446744073709551615 := by
  rcases Nat.lt_or_ge k ws.length with hk | hk
  · rw [List.getElem?_eq_getElem hk]
    exact h _ (List.getElem_mem hk)
  · rw [List.getElem?_eq_none hk]
    exact ⟨by simp, by simp⟩

theorem div_step (y : Int) (k : Nat) : y / 256 ^ k / 256 = y / 256 ^ (k + 1) := by
  rw [Int.ediv_ediv_of_nonneg (Int.pow_nonneg (by decide)), Int.pow_succ]
theorem div_nonneg' (y : Int) (h : 0 ≤ y) (k : Nat) : 0 ≤ y / 256 ^ k := Int.ediv_nonneg h (Int.pow_nonneg (by decide))

set_option maxHeartbeats 400000 in
theorem sum_at (b c : Nat) (ws : List Int) (n : Int) (w : World) (h : RowAt w 74 36 b c ws n) (hwf : Wf ws) :
    Calls Try.prog 33 #[.pointer (some ⟨b, 0, none⟩)] w fun e w' => e = .returned (.int .u64 (sumTo ws ws.length)) ∧ w' = w := by
  have c0 := h.cell0
  have hp := h.pos
  have hm := h.le
  have hd : decide (0 < ws.length) = true := by simp; omega
  go_enter Try.func33, Try.ntmps33
  go_wp2_with fail
  refine (made_at b _ ws.length ws.length _ c0).mono ?_
  rintro e w' ⟨rfl, rfl⟩
  go_wp2_with fail
  go_loop [3, 5, 14] (fun su wo i => ∃ k : Nat, k ≤ ws.length ∧ i = .int .i64 k ∧ su = .int .u64 (sumTo ws k)) (fun _ _ i => ws.length - (intOf i).toNat)
  case atStart => exact ⟨0, Nat.zero_le _, rfl, rfl⟩
  case round =>
    obtain ⟨k, hk, rfl, rfl⟩ := hrel
    by_cases hlt : k < ws.length
    · have hw := h.wcell k hlt
      have hy := (hwf.get k).1
      have HS : Hid (sumTo ws (k + 1) = mixTo (sumTo ws k) (ws[k]?.getD 0) 8) := rfl
      generalize ws[k]?.getD 0 = y at hw hy HS
      generalize sumTo ws k = s at HS ⊢
      go_wp2
      go_loop [3, 5, 18] (fun su wo i => ∃ j : Nat, j ≤ 8 ∧ i = .int .i64 j ∧ su = .int .u64 (mixTo s y j) ∧ wo = .int .u64 (y / 256 ^ j)) (fun _ _ i => 8 - (intOf i).toNat)
      case atStart => exact ⟨0, by omega, rfl, rfl, by simp⟩
      case round =>
        obtain ⟨j, hj, rfl, rfl, rfl⟩ := hrel
        by_cases hlt8 : j < 8
        · have hyj := div_nonneg' y hy j
          have HM : Hid (mixTo s y (j + 1) = mix (mixTo s y j) (y / 256 ^ j)) := rfl
          have HD : Hid (y / 256 ^ j / 256 = y / 256 ^ (j + 1)) := div_step y j
          generalize y / 256 ^ j = z at hyj HM HD ⊢
          generalize mixTo s y j = t at HM ⊢
          go_wp2
          go_round
          case rel => exact ⟨j + 1, by omega, by go_num, by rw [HM.out]; rfl, by rw [← HD.out]⟩
          case measure => simp [intOf]; omega
        · obtain rfl : j = 8 := by omega
          generalize y / 256 ^ 8 = z
          generalize mixTo s y 8 = t at HS ⊢
          go_wp2
          go_round
          case rel => exact ⟨k + 1, by omega, by go_num, by rw [HS.out]⟩
          case measure => simp [intOf]; omega
    · obtain rfl : k = ws.length := by omega
      go_wp2
      go_ret
      exact ⟨rfl, rfl⟩

end Go.Proofs.Ytmffkcbdgpaieaa
