
/- A walk of the document's turn (package parleyref13). No statement of the seat is proved here. -/
import Derived.Test.YtjkileijkgbndaaDoorEvB
namespace Go.Proofs.YtjkileijkgbndaaDoor
open Go.RowKit Go.Shelf

def TP (n : Nat) (w : World) : Ending → World → Prop := fun ex w' => ex = .returned (.int .i64 ((n : Int) - 1)) ∧ Keeps (fun _ => False) w w'
theorem TP.mk {n : Nat} {z : Int} {w : World} {o : Obj} (h : (n : Int) - 1 = z) : TP n w (.returned (.int .i64 z)) (w.alloc o) := ⟨by rw [h], (Keeps.refl _ w).alloc o⟩
set_option maxRecDepth 100000 in
set_option maxHeartbeats 4000000 in
theorem rturn1 (th kd ad wd : Int) (own : Bool) (er : Int) (w : World) (h0 : 1 ≤ kd) (h1 : kd ≤ 12) : Calls Tryd.prog 37 #[.int .i64 0, .agg #[.int .i64 th, .int .i64 kd, .int .u64 ad, .int .u64 wd, .bool own, .int .i64 er]] w (TP (turnN 1 ⟨th, kd, ad, wd, own, er⟩) w) := by
  rcases kd12 h0 h1 with rfl | rfl | rfl | rfl | rfl | rfl | rfl | rfl | rfl | rfl | rfl | rfl
  · go_enter Tryd.func37, Tryd.ntmps37
    go_wp2_with fail
    go_ret
    exact TP.mk (by simp [turnN])
  · go_enter Tryd.func37, Tryd.ntmps37
    go_wp2_with fail
    go_ret
    exact TP.mk (by simp [turnN])
  · go_enter Tryd.func37, Tryd.ntmps37
    go_wp2_with fail
    go_ret
    exact TP.mk (by simp [turnN])
  · go_enter Tryd.func37, Tryd.ntmps37
    go_wp2_with fail
    go_ret
    exact TP.mk (by simp [turnN])
  · go_enter Tryd.func37, Tryd.ntmps37
    go_wp2_with fail
    go_ret
    exact TP.mk (by simp [turnN])
  · go_enter Tryd.func37, Tryd.ntmps37
    go_wp2_with fail
    go_ret
    exact TP.mk (by simp [turnN])
  · go_enter Tryd.func37, Tryd.ntmps37
    go_wp2_with fail
    go_ret
    exact TP.mk (by simp [turnN])
  · go_enter Tryd.func37, Tryd.ntmps37
    go_wp2_with fail
    go_ret
    exact TP.mk (by simp [turnN])
  · by_cases h4 : er = 4
    · go_enter Tryd.func37, Tryd.ntmps37
      go_wp2_with fail
      go_ret
      exact TP.mk (by simp [turnN, *])
    · go_enter Tryd.func37, Tryd.ntmps37
      go_wp2_with fail
      go_ret
      exact TP.mk (by simp [turnN, *])
  · go_enter Tryd.func37, Tryd.ntmps37
    go_wp2_with fail
    go_ret
    exact TP.mk (by simp [turnN])
  · go_enter Tryd.func37, Tryd.ntmps37
    go_wp2_with fail
    go_ret
    exact TP.mk (by simp [turnN])
  · go_enter Tryd.func37, Tryd.ntmps37
    go_wp2_with fail
    go_ret
    exact TP.mk (by simp [turnN])
set_option maxRecDepth 100000 in
set_option maxHeartbeats 4000000 in
theorem rturn2 (th kd ad wd : Int) (own : Bool) (er : Int) (w : World) (h0 : 1 ≤ kd) (h1 : kd ≤ 12) : Calls Tryd.prog 37 #[.int .i64 1, .agg #[.int .i64 th, .int .i64 kd, .int .u64 ad, .int .u64 wd, .bool own, .int .i64 er]] w (TP (turnN 2 ⟨th, kd, ad, wd, own, er⟩) w) := by
  rcases kd12 h0 h1 with rfl | rfl | rfl | rfl | rfl | rfl | rfl | rfl | rfl | rfl | rfl | rfl
  · go_enter Tryd.func37, Tryd.ntmps37
    go_wp2_with fail
    go_ret
    exact TP.mk (by simp [turnN])
  · go_enter Tryd.func37, Tryd.ntmps37
    go_wp2_with fail
    go_ret
    exact TP.mk (by simp [turnN])
  · go_enter Tryd.func37, Tryd.ntmps37
    go_wp2_with fail
    go_ret
    exact TP.mk (by simp [turnN])
  · go_enter Tryd.func37, Tryd.ntmps37
    go_wp2_with fail
    go_ret
    exact TP.mk (by simp [turnN])
  · go_enter Tryd.func37, Tryd.ntmps37
    go_wp2_with fail
    go_ret
    exact TP.mk (by simp [turnN])
  · go_enter Tryd.func37, Tryd.ntmps37
    go_wp2_with fail
    go_ret
    exact TP.mk (by simp [turnN])
  · go_enter Tryd.func37, Tryd.ntmps37
    go_wp2_with fail
    go_ret
    exact TP.mk (by simp [turnN])
  · go_enter Tryd.func37, Tryd.ntmps37
    go_wp2_with fail
    go_ret
    exact TP.mk (by simp [turnN])
  · go_enter Tryd.func37, Tryd.ntmps37
    go_wp2_with fail
    go_ret
    exact TP.mk (by simp [turnN])
  · go_enter Tryd.func37, Tryd.ntmps37
    go_wp2_with fail
    go_ret
    exact TP.mk (by simp [turnN])
  · go_enter Tryd.func37, Tryd.ntmps37
    go_wp2_with fail
    go_ret
    exact TP.mk (by simp [turnN])
  · go_enter Tryd.func37, Tryd.ntmps37
    go_wp2_with fail
    go_ret
    exact TP.mk (by simp [turnN])
set_option maxRecDepth 100000 in
set_option maxHeartbeats 4000000 in
theorem rturn3 (th kd ad wd : Int) (own : Bool) (er : Int) (w : World) : Calls Tryd.prog 37 #[.int .i64 2, .agg #[.int .i64 th, .int .i64 kd, .int .u64 ad, .int .u64 wd, .bool own, .int .i64 er]] w (TP (turnN 3 ⟨th, kd, ad, wd, own, er⟩) w) := by
  by_cases h6 : kd = 6
  · go_enter Tryd.func37, Tryd.ntmps37
    go_wp2_with fail
    go_ret
    exact TP.mk (by simp [turnN, *])
  · go_enter Tryd.func37, Tryd.ntmps37
    go_wp2_with fail
    go_ret
    exact TP.mk (by simp [turnN, *])
set_option maxRecDepth 100000 in
set_option maxHeartbeats 4000000 in
theorem rturn4 (th kd ad wd : Int) (own : Bool) (er : Int) (w : World) : Calls Tryd.prog 37 #[.int .i64 3, .agg #[.int .i64 th, .int .i64 kd, .int .u64 ad, .int .u64 wd, .bool own, .int .i64 er]] w (TP (turnN 4 ⟨th, kd, ad, wd, own, er⟩) w) := by
  go_enter Tryd.func37, Tryd.ntmps37
  go_wp2_with fail
  go_ret
  exact TP.mk (by simp [turnN])
theorem rturn_any (st : Nat) (hs : 1 ≤ st) (hs4 : st ≤ 4) (e : Ev) (h0 : 1 ≤ e.kd) (h1 : e.kd ≤ 12) (w : World) : Calls Tryd.prog 37 #[.int .i64 ((st : Int) - 1), .agg e.cells] w fun ex w' => ex = .returned (.int .i64 ((turnN st e : Int) - 1)) ∧ Keeps (fun _ => False) w w' := by
  obtain ⟨th, kd, ad, wd, own, er⟩ := e
  have : st = 1 ∨ st = 2 ∨ st = 3 ∨ st = 4 := by omega
  rcases this with rfl | rfl | rfl | rfl
  · exact rturn1 th kd ad wd own er w h0 h1
  · exact rturn2 th kd ad wd own er w h0 h1
  · exact rturn3 th kd ad wd own er w
  · exact rturn4 th kd ad wd own er w
end Go.Proofs.YtjkileijkgbndaaDoor
