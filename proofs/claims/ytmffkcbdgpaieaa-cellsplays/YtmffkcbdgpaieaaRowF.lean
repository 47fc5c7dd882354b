/-
  Walks of the program's methods at a row that is not there, or that no call made (package cells). No statement of the seat is proved here.
-/
import Derived.Test.YtmffkcbdgpaieaaRowE
namespace Go.Proofs.Ytmffkcbdgpaieaa
open Go.RowKit

/-- A row that is not there: nil, or a zero one. -/
def NoRow (w : World) (p : Option Addr) : Prop := p = none ∨ ∃ b, p = some ⟨b, 0, none⟩ ∧ w.cell? ⟨b, 0, none⟩ = some (.slice none 0 0)

theorem made_none (p : Option Addr) (w : World) (hp : NoRow w p) : Calls Try.prog 39 #[.pointer p] w fun e w' => e = .returned (.bool false) ∧ w' = w := by
  rcases hp with rfl | ⟨b, rfl, h0⟩
  · exact made_nil w
  · exact made_at b none 0 0 w h0

theorem len_none (p : Option Addr) (w : World) (hp : NoRow w p) : Calls Try.prog 35 #[.pointer p] w fun e w' => e = .returned (.int .i64 0) ∧ w' = w := by
  rcases hp with rfl | ⟨b, rfl, h0⟩
  · exact len_nil w
  · exact len_at b none 0 0 w h0

theorem has_none (p : Option Addr) (a : Int) (ha : 0 ≤ a) (w : World) (hp : NoRow w p) : Calls Try.prog 49 #[.pointer p, .int .u64 a] w fun e w' => e = .returned (.bool false) ∧ w' = w := by
  rcases hp with rfl | ⟨b, rfl, h0⟩
  · exact has_nil a ha w
  · refine (has_at a b none 0 0 (by omega) w h0).mono ?_
    rintro e w' ⟨rfl, rfl⟩
    exact ⟨by simp; omega, rfl⟩

set_option maxHeartbeats 400000 in
theorem words_none (p : Option Addr) (w : World) (hp : NoRow w p) : Calls Try.prog 46 #[.pointer p] w fun e w' => e = .returned (.slice none 0 0) ∧ w' = w := by
  go_enter Try.func46, Try.ntmps46
  go_wp2_with (go_at_call 39; refine (made_none p _ hp).mono ?_; rintro e w' ⟨rfl, rfl⟩)
  go_ret
  exact ⟨rfl, rfl⟩

set_option maxHeartbeats 400000 in
theorem copy_none (p : Option Addr) (w : World) (hp : NoRow w p) : Calls Try.prog 16 #[.pointer p] w fun e w' => e = .returned (.pointer none) ∧ w' = w := by
  go_enter Try.func16, Try.ntmps16
  go_wp2_with (go_at_call 39; refine (made_none p _ hp).mono ?_; rintro e w' ⟨rfl, rfl⟩)
  go_ret
  exact ⟨rfl, rfl⟩

set_option maxHeartbeats 400000 in
theorem slice_none (p : Option Addr) (a b : Int) (w : World) (hp : NoRow w p) : Calls Try.prog 56 #[.pointer p, .int .u64 a, .int .u64 b] w fun e w' => e = .returned (.tuple #[.slice none 0 0, .int .i64 1]) ∧ w' = w := by
  go_enter Try.func56, Try.ntmps56
  go_wp2_with (go_at_call 39; refine (made_none p _ hp).mono ?_; rintro e w' ⟨rfl, rfl⟩)
  go_ret2
  exact ⟨rfl, rfl⟩

set_option maxHeartbeats 400000 in
theorem fill_none (p : Option Addr) (a : Int) (v : Value) (w : World) (hp : NoRow w p) : Calls Try.prog 57 #[.pointer p, .int .u64 a, v] w fun e w' => e = .returned (.int .i64 1) ∧ w' = w := by
  go_enter Try.func57, Try.ntmps57
  go_wp2_with (go_at_call 39; refine (made_none p _ hp).mono ?_; rintro e w' ⟨rfl, rfl⟩)
  go_ret
  exact ⟨rfl, rfl⟩

set_option maxHeartbeats 400000 in
theorem sum_none (p : Option Addr) (w : World) (hp : NoRow w p) : Calls Try.prog 33 #[.pointer p] w fun e w' => e = .returned (.int .u64 0) ∧ w' = w := by
  go_enter Try.func33, Try.ntmps33
  go_wp2_with (go_at_call 39; refine (made_none p _ hp).mono ?_; rintro e w' ⟨rfl, rfl⟩)
  go_ret
  exact ⟨rfl, rfl⟩

set_option maxHeartbeats 400000 in
theorem differ_none1 (p : Option Addr) (v : Value) (w : World) (hp : NoRow w p) : Calls Try.prog 31 #[.pointer p, v] w fun e w' => e = .returned (.tuple #[.slice none 0 0, .int .i64 1]) ∧ w' = w := by
  go_enter Try.func31, Try.ntmps31
  go_wp2_with (go_at_call 39; refine (made_none p _ hp).mono ?_; rintro e w' ⟨rfl, rfl⟩)
  go_ret2
  exact ⟨rfl, rfl⟩

set_option maxHeartbeats 400000 in
theorem same_none1 (p : Option Addr) (v : Value) (w : World) (hp : NoRow w p) : Calls Try.prog 32 #[.pointer p, v] w fun e w' => e = .returned (.bool false) ∧ Keeps (fun _ => False) w w' := by
  have hp' : NoRow (w.alloc (.cells #[.bool false] 4)) p := by
    rcases hp with rfl | ⟨b, rfl, h0⟩
    · exact .inl rfl
    · exact .inr ⟨b, rfl, by rw [World.cell?_alloc_lt _ _ _ (World.block_lt_of_cell? _ _ h0), h0]⟩
  go_enter Try.func32, Try.ntmps32
  go_wp2_with (go_at_call 39; refine (made_none p _ hp').mono ?_; rintro e w' ⟨rfl, rfl⟩)
  refine bodyPost_ret (v := .bool false) (by simp [results, Try.results32, go_sem]) rfl ⟨rfl, ?_⟩
  exact (Keeps.refl _ w).alloc _

end Go.Proofs.Ytmffkcbdgpaieaa
