
/- Walks of the program's clock (package seq): made, Open, Number, Snapshot, count, turn, From, New, Load, Take, Leave, Back, Steps, Copy. No statement of the seat is proved here. -/
import Derived.Test.YtlldffbohojppaaCOf
import Derived.Defers
namespace Go.Proofs.Ytlldffbohojppaa
open Go.RowKit

/-- A clock in block p, its row in block b, the word in block c: the word, how many steps. -/
structure ClkAt (w : World) (p b c : Nat) (x st : Int) : Prop where
  box : w.heap[p]? = some (.cells #[.pointer (some ⟨b, 0, none⟩), .int .i64 st] 56 (0, 0))
  row : ∃ n, RowAt w 68 22 b c [x] n
  nb : p ≠ b
  nc : p ≠ c
  lo : 0 ≤ x
  hi : x < 18446744073709551616

/-- The blocks of a clock. -/
def own3 (p b c : Nat) : Nat → Prop := fun k => k = p ∨ k = b ∨ k = c

section
variable {w w' : World} {p b c : Nat} {x st : Int}
theorem ClkAt.cell0 (h : ClkAt w p b c x st) : w.cell? ⟨p, 0, none⟩ = some (.pointer (some ⟨b, 0, none⟩)) := by rw [cell_of_block h.box]; rfl
theorem ClkAt.cell1 (h : ClkAt w p b c x st) : w.cell? ⟨p, 1, none⟩ = some (.int .i64 st) := by rw [cell_of_block h.box]; rfl
theorem ClkAt.frozen (h : ClkAt w p b c x st) (i : Nat) : w.frozen? ⟨p, i, none⟩ = false := frozen_of_block h.box i
theorem ClkAt.ltp (h : ClkAt w p b c x st) : p < w.heap.size := lt_of_block h.box
theorem ClkAt.ltb (h : ClkAt w p b c x st) : b < w.heap.size := by obtain ⟨n, r⟩ := h.row; exact r.ltb
theorem ClkAt.ltc (h : ClkAt w p b c x st) : c < w.heap.size := by obtain ⟨n, r⟩ := h.row; exact r.ltc
theorem ClkAt.kept {S : Nat → Prop} (h : ClkAt w p b c x st) (k : Keeps S w w') (hs : ∀ i, own3 p b c i → ¬ S i) : ClkAt w' p b c x st := by
  obtain ⟨n, r⟩ := h.row
  exact ⟨(k.block p h.ltp (hs p (.inl rfl))).trans h.box, ⟨n, r.kept k (hs b (.inr (.inl rfl))) (hs c (.inr (.inr rfl)))⟩, h.nb, h.nc, h.lo, h.hi⟩
theorem ClkAt.step (h : ClkAt w p b c x st) (m : Int) : ClkAt (w.setCell ⟨p, 1, none⟩ (.int .i64 m)) p b c x m := by
  obtain ⟨n, r⟩ := h.row
  refine ⟨block_set h.box 1 _, ⟨n, ⟨(Below.heap_setCell _ _ _ _ (Ne.symm h.nb)).trans r.row, (Below.heap_setCell _ _ _ _ (Ne.symm h.nc)).trans r.words, r.ne, r.pos, r.le⟩⟩, h.nb, h.nc, h.lo, h.hi⟩
end

/-- One more step. -/
def inc (n : Int) : Int := wrap64 (n + 1)
/-- One more word. -/
def upw (n k : Int) : Int := IntKind.u64.wrap (n + k)

theorem upw_val (n k : Int) : upw n k = (n + k) % 18446744073709551616 := by
  unfold upw
  simp [IntKind.wrap, IntKind.signed, IntKind.bits]
theorem upw_lo (n k : Int) : 0 ≤ upw n k := by rw [upw_val]; omega
theorem upw_hi (n k : Int) : upw n k < 18446744073709551616 := by rw [upw_val]; omega

theorem and_one (x : Int) (h0 : 0 ≤ x) (h1 : x < 18446744073709551616) : bits .and .u64 x 1 = x % 2 := by
  show IntKind.u64.wrap ((BitVec.ofInt 64 x &&& BitVec.ofInt 64 1).toNat : Nat) = x % 2
  have key : (BitVec.ofInt 64 x &&& BitVec.ofInt 64 1).toNat = x.toNat % 2 := by
    rw [BitVec.toNat_and, BitVec.toNat_ofInt, BitVec.toNat_ofInt]
    rw [show ((1 : Int) % ((2 ^ 64 : Nat) : Int)).toNat = 1 from by decide +kernel, Nat.and_one_is_mod]
    congr 2
    exact Int.emod_eq_of_lt h0 (by omega)
  rw [key]
  simp [IntKind.wrap, IntKind.signed, IntKind.bits]
  omega

set_option maxHeartbeats 400000 in
theorem open_any (x : Int) (h0 : 0 ≤ x) (h1 : x < 18446744073709551616) (w : World) : Calls Try.prog 15 #[.int .u64 x] w fun e w' => e = .returned (.bool (decide (x % 2 = 0))) ∧ w' = w := by
  go_enter Try.func15, Try.ntmps15
  go_wp2
  go_ret
  refine ⟨?_, rfl⟩
  simp only [and_one x h0 h1]
  by_cases h : x % 2 = 0 <;> simp [h]

set_option maxHeartbeats 400000 in
theorem number_any (x : Int) (w : World) : Calls Try.prog 14 #[.int .u64 x] w fun e w' => e = .returned (.int .u64 (x / 2)) ∧ w' = w := by
  go_enter Try.func14, Try.ntmps14
  go_wp2
  go_ret
  exact ⟨rfl, rfl⟩

set_option maxHeartbeats 400000 in
theorem snap_any (x : Int) (w : World) : Calls Try.prog 19 #[.int .u64 x] w fun e w' => e = .returned (.int .u64 ((2 * x) % 18446744073709551616)) ∧ w' = w := by
  go_enter Try.func19, Try.ntmps19
  go_wp2
  go_ret
  refine ⟨?_, rfl⟩
  simp [IntKind.wrap, IntKind.signed, IntKind.bits, Int.mul_comm]

set_option maxHeartbeats 400000 in
theorem cmade_nil (w : World) : Calls Try.prog 22 #[.pointer none] w fun e w' => e = .returned (.bool false) ∧ w' = w := by
  go_enter Try.func22, Try.ntmps22
  go_wp2
  go_ret
  exact ⟨rfl, rfl⟩

set_option maxHeartbeats 400000 in
theorem cmade_zero (p : Nat) (w : World) (h0 : w.cell? ⟨p, 0, none⟩ = some (.pointer none)) : Calls Try.prog 22 #[.pointer (some ⟨p, 0, none⟩)] w fun e w' => e = .returned (.bool false) ∧ w' = w := by
  go_enter Try.func22, Try.ntmps22
  go_wp2
  go_ret
  exact ⟨rfl, rfl⟩

set_option maxHeartbeats 400000 in
theorem cmade_at (p b : Nat) (w : World) (h0 : w.cell? ⟨p, 0, none⟩ = some (.pointer (some ⟨b, 0, none⟩))) : Calls Try.prog 22 #[.pointer (some ⟨p, 0, none⟩)] w fun e w' => e = .returned (.bool true) ∧ w' = w := by
  go_enter Try.func22, Try.ntmps22
  go_wp2
  go_ret
  exact ⟨rfl, rfl⟩

theorem count_d (p : Nat) (st : Int) (u : FrameMode) (w : World) (h1 : w.cell? ⟨p, 1, none⟩ = some (.int .i64 st)) (f1 : w.frozen? ⟨p, 1, none⟩ = false) :
    CallsD Try.prog 28 #[.pointer (some ⟨p, 0, none⟩)] u w fun e u' w' => u' = u ∧ (e = .returned (.tuple #[]) ∧ w' = w.setCell ⟨p, 1, none⟩ (.int .i64 (inc st))) := by
  unfold inc
  go_enter_d Try.func28, Try.ntmps28
  go_wp2
  go_end0
  exact ⟨rfl, rfl⟩

end Go.Proofs.Ytlldffbohojppaa
