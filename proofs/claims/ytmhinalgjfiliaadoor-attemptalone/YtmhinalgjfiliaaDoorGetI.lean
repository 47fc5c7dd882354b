
/-
  Walks of the program's Get. No statement of the seat is proved here.
-/
import Derived.Test.YtmhinalgjfiliaaDoorPutI
namespace Go.Proofs.YtmhinalgjfiliaaDoor.I
open Go.RowKit

set_option maxHeartbeats 400000 in
theorem get_nil (k : Int) (w : World) : Calls Tryd.prog 50 #[.pointer none, .int .u64 k] w fun e w' => e = .returned (.tuple #[Value.int .i64 0, .bool false]) ∧ w' = w := by
  go_enter Tryd.func50, Tryd.ntmps50
  go_wp2_with (go_at_call 69; refine (made_nil _).mono ?_; rintro e w' ⟨rfl, rfl⟩)
  go_ret2
  exact ⟨rfl, rfl⟩
set_option maxHeartbeats 400000 in
theorem get_at (b s e0 p : Nat) (K : List (Option Int)) (O : List Int) (bf : Int → Nat) (vf : Int → Value) (k : Int) (w : World) (h : Good w b s e0 p K O bf vf) (hw : Tz w) :
    Calls Tryd.prog 50 #[.pointer (some ⟨b, 0, none⟩), .int .u64 k] w fun e w' => e = .returned (.tuple #[if k ∈ O then vf k else Value.int .i64 0, .bool (decide (k ∈ O))]) ∧ w' = w := by
  have hm := h.made
  have hf := h.find hw k
  have c0 := h.tab.c0
  have hsl := h.slotlt k
  have hcs := h.tab.cs _ hsl
  by_cases hk : k ∈ O
  · rw [if_pos hk, decide_eq_true hk]
    rw [h.inv.slot_in hk] at hcs
    obtain ⟨a, c, he⟩ := h.tab.key hk
    have hv : w.cell? ⟨bf k, 1, none⟩ = some (vf k) := by rw [cell_of_block he]; rfl
    simp only [slotVal] at hcs
    generalize slotN (2 ^ p) K (homeP p k) k = x at *
    generalize lookN (2 ^ p) K (homeP p k) k + 1 = L at *
    generalize bf k = B at *
    generalize vf k = V at *
    clear he h hk
    go_enter Tryd.func50, Tryd.ntmps50
    go_wp2_with (first | (go_at_call 69; refine hm.mono ?_; rintro e w' ⟨rfl, rfl⟩) | (go_at_call 70; refine hf.mono ?_; rintro e w' ⟨rfl, rfl⟩))
    go_ret2
    exact ⟨rfl, rfl⟩
  · rw [if_neg hk, decide_eq_false hk]
    rw [h.inv.slot_out hk] at hcs
    simp only [slotVal] at hcs
    generalize slotN (2 ^ p) K (homeP p k) k = x at *
    generalize lookN (2 ^ p) K (homeP p k) k + 1 = L at *
    clear h hk
    go_enter Tryd.func50, Tryd.ntmps50
    go_wp2_with (first | (go_at_call 69; refine hm.mono ?_; rintro e w' ⟨rfl, rfl⟩) | (go_at_call 70; refine hf.mono ?_; rintro e w' ⟨rfl, rfl⟩))
    go_ret2
    exact ⟨rfl, rfl⟩

end Go.Proofs.YtmhinalgjfiliaaDoor.I
