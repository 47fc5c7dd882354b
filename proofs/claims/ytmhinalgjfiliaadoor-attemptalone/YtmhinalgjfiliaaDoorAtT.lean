
/-
  Small calls of the program's attempts that need no attempt: told and got; how a call ends that answers a struct. No statement of the seat is proved here.
-/
import Derived.Test.YtmhinalgjfiliaaDoorTabC
import Derived.Laws.ResultCell
namespace Go.Proofs.YtmhinalgjfiliaaDoor
open Go.RowKit

theorem results_cell {fn : Func} {p : Tmp} {ty : TypeId} (h : fn.results = #[.cell p ty]) (tmps : Array Value) (P : Program) (w : World) :
    (results fn tmps).run P w = ((asAddr (tmps.getD p undef)).run P w).andThen fun a w₁ => (loadVar ty a).run P w₁ := by
  simp only [results, h]
  simp [Sem.run_bind, Result.andThen]
theorem results_tct {fn : Func} {t p u : Tmp} {ty : TypeId} (h : fn.results = #[.tmp t, .cell p ty, .tmp u]) (tmps : Array Value) (P : Program) (w : World) :
    (results fn tmps).run P w = ((asAddr (tmps.getD p undef)).run P w).andThen fun a w₁ => ((loadVar ty a).run P w₁).andThen fun v w₂ => .ok (.tuple #[tmps.getD t undef, v, tmps.getD u undef]) w₂ := by
  simp only [results, h]
  simp [Sem.run_bind, Result.andThen]

/-- A turn. -/
def turnV (o x k a y : Int) (ow : Bool) : Value := .agg #[.int .i64 o, .int .u64 x, .int .i64 0, .int .i64 k, .int .u64 a, .int .u64 y, .bool ow, .int .i64 0]
def turn0 : Value := turnV 0 0 0 0 0 false

set_option maxHeartbeats 400000 in
theorem told_any (o k x : Int) (w : World) : Calls Tryd.prog 26 #[.int .i64 o, .int .i64 k, .int .u64 x] w fun e w' => e = .returned (turnV o 0 k 0 x false) ∧ Keeps (fun _ => False) w w' := by
  go_enter Tryd.func26, Tryd.ntmps26
  go_wp2
  refine bodyPost_ret (v := turnV o 0 k 0 x false) (by rw [results_cell rfl]; unfold turnV; go_simp) rfl ?_
  exact ⟨rfl, (Keeps.refl _ w).alloc _⟩

set_option maxHeartbeats 400000 in
theorem got_own (a x : Int) (w : World) : Calls Tryd.prog 33 #[.int .i64 0, .int .u64 a, .int .u64 x] w fun e w' => e = .returned (turnV 2 x 2 a x true) ∧ Keeps (fun _ => False) w w' := by
  go_enter Tryd.func33, Tryd.ntmps33
  go_wp2
  refine bodyPost_ret (v := turnV 2 x 2 a x true) (by rw [results_cell rfl]; unfold turnV; go_simp) rfl ?_
  exact ⟨rfl, ((Keeps.refl _ w).alloc _).alloc _⟩
set_option maxHeartbeats 400000 in
theorem got_load (a x : Int) (w : World) : Calls Tryd.prog 33 #[.int .i64 1, .int .u64 a, .int .u64 x] w fun e w' => e = .returned (turnV 2 x 2 a x false) ∧ Keeps (fun _ => False) w w' := by
  go_enter Tryd.func33, Tryd.ntmps33
  go_wp2
  refine bodyPost_ret (v := turnV 2 x 2 a x false) (by rw [results_cell rfl]; unfold turnV; go_simp) rfl ?_
  exact ⟨rfl, ((Keeps.refl _ w).alloc _).alloc _⟩
end Go.Proofs.YtmhinalgjfiliaaDoor
