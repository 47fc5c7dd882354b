
/- The calls without a tx (layer 24). No statement of the seat is proved here. -/
import Derived.Test.YtalopkllldnipaaRnA
namespace Go.Proofs.Ytalopkllldnipaa
open Go.RowKit

set_option maxHeartbeats 2000000 in
theorem new_nil (a : Int) (w : World) : Calls Try.prog 31 #[.nilIface, .int .u64 a] w fun e w' => e = .returned (.tuple #[.int .u64 0, .int .i64 1]) ∧ Keeps (fun _ => False) w w' := by
  go_enter Try.func31, Try.ntmps31
  go_wp2_with fail
  go_ret2
  exact ⟨rfl, Keeps.refl _ _⟩
set_option maxHeartbeats 2000000 in
theorem push_nil (a h x : Int) (n : Nat) (w : World) : Calls Try.prog 24 #[.nilIface, .int .u64 a, .int .u64 h, .float .f64 n, .int .u64 x] w fun e w' => e = .returned (.int .i64 1) ∧ Keeps (fun _ => False) w w' := by
  go_enter Try.func24, Try.ntmps24
  go_wp2_with fail
  go_ret
  exact ⟨rfl, ((keeps_new w _).alloc _)⟩
set_option maxHeartbeats 2000000 in
theorem pop_nil (a h : Int) (w : World) : Calls Try.prog 28 #[.nilIface, .int .u64 a, .int .u64 h] w fun e w' => e = .returned (.tuple #[.agg #[.float .f64 0, .int .u64 0], .bool false, .int .i64 1]) ∧ Keeps (fun _ => False) w w' := by
  have hB : Blk (w.alloc (.cells #[.float .f64 0, .int .u64 0] 40)) w.heap.size 40 #[.float .f64 0, .int .u64 0] := blk_new w _ _
  go_enter Try.func28, Try.ntmps28
  go_wp2_with fail
  refine bodyPost_ret (ranked_ret3 rfl _ _ w.heap.size _ _ hB rfl) rfl ?_
  exact ⟨rfl, keeps_new w _⟩
set_option maxHeartbeats 2000000 in
theorem first_nil (h : Int) (w : World) : Calls Try.prog 33 #[.nilIface, .int .u64 h] w fun e w' => e = .returned (.tuple #[.agg #[.float .f64 0, .int .u64 0], .bool false, .int .i64 1]) ∧ Keeps (fun _ => False) w w' := by
  have hB : Blk (w.alloc (.cells #[.float .f64 0, .int .u64 0] 40)) w.heap.size 40 #[.float .f64 0, .int .u64 0] := blk_new w _ _
  go_enter Try.func33, Try.ntmps33
  go_wp2_with fail
  refine bodyPost_ret (ranked_ret3 rfl _ _ w.heap.size _ _ hB rfl) rfl ?_
  exact ⟨rfl, keeps_new w _⟩
set_option maxHeartbeats 2000000 in
theorem len_nil (h : Int) (w : World) : Calls Try.prog 34 #[.nilIface, .int .u64 h] w fun e w' => e = .returned (.tuple #[.int .u64 0, .int .i64 1]) ∧ Keeps (fun _ => False) w w' := by
  go_enter Try.func34, Try.ntmps34
  go_wp2_with fail
  go_ret2
  exact ⟨rfl, Keeps.refl _ _⟩
set_option maxHeartbeats 2000000 in
theorem all_nil (h : Int) (w : World) : Calls Try.prog 22 #[.nilIface, .int .u64 h] w fun e w' => e = .returned (.tuple #[.slice none 0 0, .int .i64 1]) ∧ Keeps (fun _ => False) w w' := by
  go_enter Try.func22, Try.ntmps22
  go_wp2_with fail
  go_ret2
  exact ⟨rfl, Keeps.refl _ _⟩
set_option maxHeartbeats 2000000 in
theorem clear_nil (a h : Int) (w : World) : Calls Try.prog 35 #[.nilIface, .int .u64 a, .int .u64 h] w fun e w' => e = .returned (.tuple #[.int .u64 0, .int .i64 1]) ∧ Keeps (fun _ => False) w w' := by
  go_enter Try.func35, Try.ntmps35
  go_wp2_with fail
  go_ret2
  exact ⟨rfl, Keeps.refl _ _⟩
set_option maxHeartbeats 2000000 in
theorem join_nil (a h : Int) (w : World) : Calls Try.prog 26 #[.nilIface, .int .u64 a, .int .u64 h] w fun e w' => e = .returned (.int .i64 1) ∧ Keeps (fun _ => False) w w' := by
  go_enter Try.func26, Try.ntmps26
  go_wp2_with fail
  go_ret
  exact ⟨rfl, Keeps.refl _ _⟩
end Go.Proofs.Ytalopkllldnipaa
