
/-
  Walks of the program's accesses to a row (cells.Row): access, Load, Store, Swap, Add; and New. No statement of the seat is proved here.
-/
import Derived.Test.YtlldffbohojppaaCRowA
namespace Go.Proofs.Ytlldffbohojppaa
open Go.RowKit

set_option maxHeartbeats 400000 in
theorem access_nil (a : Int) (w : World) : Calls Try.prog 36 #[.pointer none, .int .u64 a] w fun e w' => e = .returned (.tuple #[.pointer none, .int .i64 1]) ∧ w' = w := by
  go_enter Try.func36, Try.ntmps36
  go_wp2_with (go_at_call 33; refine (made_nil _).mono ?_; rintro e w' ⟨rfl, rfl⟩)
  go_ret2
  exact ⟨rfl, rfl⟩

set_option maxHeartbeats 400000 in
theorem access_zero (b : Nat) (a : Int) (w : World) (h0 : w.cell? ⟨b, 0, none⟩ = some (.slice none 0 0)) : Calls Try.prog 36 #[.pointer (some ⟨b, 0, none⟩), .int .u64 a] w fun e w' => e = .returned (.tuple #[.pointer none, .int .i64 1]) ∧ w' = w := by
  go_enter Try.func36, Try.ntmps36
  go_wp2_with (go_at_call 33; refine (made_at b none 0 0 _ h0).mono ?_; rintro e w' ⟨rfl, rfl⟩)
  go_ret2
  exact ⟨rfl, rfl⟩

set_option maxHeartbeats 400000 in
theorem access_out (b c : Nat) (ws : List Int) (n a : Int) (w : World) (h : RowAt w 68 22 b c ws n) (ha : (ws.length : Int) ≤ a) :
    Calls Try.prog 36 #[.pointer (some ⟨b, 0, none⟩), .int .u64 a] w fun e w' => e = .returned (.tuple #[.pointer none, .int .i64 4]) ∧ w' = w.setCell ⟨b, 1, none⟩ (.int .u64 (IntKind.u64.wrap (n + 1))) := by
  have c0 := h.cell0
  have c1 := h.cell1
  have f1 := h.frozen 1
  have k0 := (h.count (IntKind.u64.wrap (n + 1))).cell0
  have hp := h.pos
  have hm := h.le
  have hd : decide (0 < ws.length) = true := by simp; omega
  have hd2 : decide (a < (ws.length : Int)) = false := by simp; omega
  clear h
  go_enter Try.func36, Try.ntmps36
  go_wp2_with fail
  refine (made_at b _ ws.length ws.length _ c0).mono ?_
  rintro e w' ⟨rfl, rfl⟩
  go_wp2_with fail
  refine (has_at a b _ ws.length ws.length hm _ k0).mono ?_
  rintro e w' ⟨rfl, rfl⟩
  go_wp2_with fail
  go_ret2
  exact ⟨rfl, rfl⟩

set_option maxHeartbeats 400000 in
theorem access_in (b c : Nat) (ws : List Int) (n a : Int) (w : World) (h : RowAt w 68 22 b c ws n) (h0 : 0 ≤ a) (ha : a < (ws.length : Int)) :
    Calls Try.prog 36 #[.pointer (some ⟨b, 0, none⟩), .int .u64 a] w fun e w' => e = .returned (.tuple #[.pointer (some ⟨c, a.toNat, none⟩), .int .i64 0]) ∧ w' = w.setCell ⟨b, 1, none⟩ (.int .u64 (IntKind.u64.wrap (n + 1))) := by
  have c0 := h.cell0
  have c1 := h.cell1
  have f1 := h.frozen 1
  have k0 := (h.count (IntKind.u64.wrap (n + 1))).cell0
  have hp := h.pos
  have hm := h.le
  have hd : decide (0 < ws.length) = true := by simp; omega
  have hd2 : decide (a < (ws.length : Int)) = true := by simp; omega
  clear h
  go_enter Try.func36, Try.ntmps36
  go_wp2_with fail
  refine (made_at b _ ws.length ws.length _ c0).mono ?_
  rintro e w' ⟨rfl, rfl⟩
  go_wp2_with fail
  refine (has_at a b _ ws.length ws.length hm _ k0).mono ?_
  rintro e w' ⟨rfl, rfl⟩
  go_wp2_with fail
  go_ret2
  exact ⟨rfl, rfl⟩

end Go.Proofs.Ytlldffbohojppaa
