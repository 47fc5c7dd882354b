
/- Walks of the document's Info (package parleyref08). No statement of the seat is proved here. -/
import Derived.Test.YtijommlodgpphaaDoorRfA
namespace Go.Proofs.YtijommlodgpphaaDoor
open Go.RowKit Go.Shelf

set_option maxRecDepth 100000 in
set_option maxHeartbeats 4000000 in
theorem rinfo_1 (w : World) : Calls Tryd.prog 23 #[.int .i64 1] w fun e w' => e = .returned (.tuple #[.agg #[.int .i64 1, .bool true, .bool false, .bool true, .bool true], .bool true]) ∧ Keeps (fun _ => False) w w' := by
  have N : ∀ w, Calls Tryd.prog 33 #[.int .i64 1] w fun e w' => e = .returned (.string ⟨#[99, 111, 110, 115, 116]⟩) ∧ w' = w.alloc (.cells namesA 9) := rname_yes 1 (by decide)
  have kk := (((Keeps.refl (fun _ => False) w).alloc (.cells #[.int .i64 1, .bool true, .bool false, .bool true, .bool true] 52)).alloc (.cells #[.int .i64 1, .bool true, .bool false, .bool true, .bool true] 52)).alloc (.cells namesA 9)
  go_enter Tryd.func23, Tryd.ntmps23
  go_wp2_with (go_at_call 33; refine (N _).mono ?_; rintro e w1 ⟨rfl, rfl⟩)
  refine ⟨rfl, .tuple #[.agg #[.int .i64 1, .bool true, .bool false, .bool true, .bool true], .bool true], ?_, rfl, kk⟩
  simp [results, Tryd.f23, go_sem]

set_option maxRecDepth 100000 in
set_option maxHeartbeats 4000000 in
theorem rinfo_2 (w : World) : Calls Tryd.prog 23 #[.int .i64 2] w fun e w' => e = .returned (.tuple #[.agg #[.int .i64 2, .bool false, .bool false, .bool true, .bool true], .bool true]) ∧ Keeps (fun _ => False) w w' := by
  have N : ∀ w, Calls Tryd.prog 33 #[.int .i64 2] w fun e w' => e = .returned (.string ⟨#[109, 111, 118, 101]⟩) ∧ w' = w.alloc (.cells namesA 9) := rname_yes 2 (by decide)
  have kk := (((Keeps.refl (fun _ => False) w).alloc (.cells #[.int .i64 2, .bool false, .bool false, .bool true, .bool true] 52)).alloc (.cells #[.int .i64 2, .bool false, .bool false, .bool true, .bool true] 52)).alloc (.cells namesA 9)
  go_enter Tryd.func23, Tryd.ntmps23
  go_wp2_with (go_at_call 33; refine (N _).mono ?_; rintro e w1 ⟨rfl, rfl⟩)
  refine ⟨rfl, .tuple #[.agg #[.int .i64 2, .bool false, .bool false, .bool true, .bool true], .bool true], ?_, rfl, kk⟩
  simp [results, Tryd.f23, go_sem]

set_option maxRecDepth 100000 in
set_option maxHeartbeats 4000000 in
theorem rinfo_3 (w : World) : Calls Tryd.prog 23 #[.int .i64 3] w fun e w' => e = .returned (.tuple #[.agg #[.int .i64 3, .bool false, .bool false, .bool true, .bool true], .bool true]) ∧ Keeps (fun _ => False) w w' := by
  have N : ∀ w, Calls Tryd.prog 33 #[.int .i64 3] w fun e w' => e = .returned (.string ⟨#[97, 100, 100]⟩) ∧ w' = w.alloc (.cells namesA 9) := rname_yes 3 (by decide)
  have kk := (((Keeps.refl (fun _ => False) w).alloc (.cells #[.int .i64 3, .bool false, .bool false, .bool true, .bool true] 52)).alloc (.cells #[.int .i64 3, .bool false, .bool false, .bool true, .bool true] 52)).alloc (.cells namesA 9)
  go_enter Tryd.func23, Tryd.ntmps23
  go_wp2_with (go_at_call 33; refine (N _).mono ?_; rintro e w1 ⟨rfl, rfl⟩)
  refine ⟨rfl, .tuple #[.agg #[.int .i64 3, .bool false, .bool false, .bool true, .bool true], .bool true], ?_, rfl, kk⟩
  simp [results, Tryd.f23, go_sem]

set_option maxRecDepth 100000 in
set_option maxHeartbeats 4000000 in
theorem rinfo_4 (w : World) : Calls Tryd.prog 23 #[.int .i64 4] w fun e w' => e = .returned (.tuple #[.agg #[.int .i64 3, .bool false, .bool false, .bool true, .bool true], .bool true]) ∧ Keeps (fun _ => False) w w' := by
  have N : ∀ w, Calls Tryd.prog 33 #[.int .i64 4] w fun e w' => e = .returned (.string ⟨#[115, 117, 98]⟩) ∧ w' = w.alloc (.cells namesA 9) := rname_yes 4 (by decide)
  have kk := (((Keeps.refl (fun _ => False) w).alloc (.cells #[.int .i64 3, .bool false, .bool false, .bool true, .bool true] 52)).alloc (.cells #[.int .i64 3, .bool false, .bool false, .bool true, .bool true] 52)).alloc (.cells namesA 9)
  go_enter Tryd.func23, Tryd.ntmps23
  go_wp2_with (go_at_call 33; refine (N _).mono ?_; rintro e w1 ⟨rfl, rfl⟩)
  refine ⟨rfl, .tuple #[.agg #[.int .i64 3, .bool false, .bool false, .bool true, .bool true], .bool true], ?_, rfl, kk⟩
  simp [results, Tryd.f23, go_sem]

set_option maxRecDepth 100000 in
set_option maxHeartbeats 4000000 in
theorem rinfo_5 (w : World) : Calls Tryd.prog 23 #[.int .i64 5] w fun e w' => e = .returned (.tuple #[.agg #[.int .i64 3, .bool false, .bool false, .bool true, .bool true], .bool true]) ∧ Keeps (fun _ => False) w w' := by
  have N : ∀ w, Calls Tryd.prog 33 #[.int .i64 5] w fun e w' => e = .returned (.string ⟨#[109, 117, 108]⟩) ∧ w' = w.alloc (.cells namesA 9) := rname_yes 5 (by decide)
  have kk := (((Keeps.refl (fun _ => False) w).alloc (.cells #[.int .i64 3, .bool false, .bool false, .bool true, .bool true] 52)).alloc (.cells #[.int .i64 3, .bool false, .bool false, .bool true, .bool true] 52)).alloc (.cells namesA 9)
  go_enter Tryd.func23, Tryd.ntmps23
  go_wp2_with (go_at_call 33; refine (N _).mono ?_; rintro e w1 ⟨rfl, rfl⟩)
  refine ⟨rfl, .tuple #[.agg #[.int .i64 3, .bool false, .bool false, .bool true, .bool true], .bool true], ?_, rfl, kk⟩
  simp [results, Tryd.f23, go_sem]

set_option maxRecDepth 100000 in
set_option maxHeartbeats 4000000 in
theorem rinfo_6 (w : World) : Calls Tryd.prog 23 #[.int .i64 6] w fun e w' => e = .returned (.tuple #[.agg #[.int .i64 3, .bool false, .bool false, .bool true, .bool true], .bool true]) ∧ Keeps (fun _ => False) w w' := by
  have N : ∀ w, Calls Tryd.prog 33 #[.int .i64 6] w fun e w' => e = .returned (.string ⟨#[108, 101, 115, 115]⟩) ∧ w' = w.alloc (.cells namesA 9) := rname_yes 6 (by decide)
  have kk := (((Keeps.refl (fun _ => False) w).alloc (.cells #[.int .i64 3, .bool false, .bool false, .bool true, .bool true] 52)).alloc (.cells #[.int .i64 3, .bool false, .bool false, .bool true, .bool true] 52)).alloc (.cells namesA 9)
  go_enter Tryd.func23, Tryd.ntmps23
  go_wp2_with (go_at_call 33; refine (N _).mono ?_; rintro e w1 ⟨rfl, rfl⟩)
  refine ⟨rfl, .tuple #[.agg #[.int .i64 3, .bool false, .bool false, .bool true, .bool true], .bool true], ?_, rfl, kk⟩
  simp [results, Tryd.f23, go_sem]

set_option maxRecDepth 100000 in
set_option maxHeartbeats 4000000 in
theorem rinfo_7 (w : World) : Calls Tryd.prog 23 #[.int .i64 7] w fun e w' => e = .returned (.tuple #[.agg #[.int .i64 3, .bool false, .bool false, .bool true, .bool true], .bool true]) ∧ Keeps (fun _ => False) w w' := by
  have N : ∀ w, Calls Tryd.prog 33 #[.int .i64 7] w fun e w' => e = .returned (.string ⟨#[101, 113, 117, 97, 108]⟩) ∧ w' = w.alloc (.cells namesA 9) := rname_yes 7 (by decide)
  have kk := (((Keeps.refl (fun _ => False) w).alloc (.cells #[.int .i64 3, .bool false, .bool false, .bool true, .bool true] 52)).alloc (.cells #[.int .i64 3, .bool false, .bool false, .bool true, .bool true] 52)).alloc (.cells namesA 9)
  go_enter Tryd.func23, Tryd.ntmps23
  go_wp2_with (go_at_call 33; refine (N _).mono ?_; rintro e w1 ⟨rfl, rfl⟩)
  refine ⟨rfl, .tuple #[.agg #[.int .i64 3, .bool false, .bool false, .bool true, .bool true], .bool true], ?_, rfl, kk⟩
  simp [results, Tryd.f23, go_sem]

set_option maxRecDepth 100000 in
set_option maxHeartbeats 4000000 in
theorem rinfo_8 (w : World) : Calls Tryd.prog 23 #[.int .i64 8] w fun e w' => e = .returned (.tuple #[.agg #[.int .i64 0, .bool true, .bool true, .bool true, .bool true], .bool true]) ∧ Keeps (fun _ => False) w w' := by
  have N : ∀ w, Calls Tryd.prog 33 #[.int .i64 8] w fun e w' => e = .returned (.string ⟨#[106, 117, 109, 112]⟩) ∧ w' = w.alloc (.cells namesA 9) := rname_yes 8 (by decide)
  have kk := (((Keeps.refl (fun _ => False) w).alloc (.cells #[.int .i64 0, .bool true, .bool true, .bool true, .bool true] 52)).alloc (.cells #[.int .i64 0, .bool true, .bool true, .bool true, .bool true] 52)).alloc (.cells namesA 9)
  go_enter Tryd.func23, Tryd.ntmps23
  go_wp2_with (go_at_call 33; refine (N _).mono ?_; rintro e w1 ⟨rfl, rfl⟩)
  refine ⟨rfl, .tuple #[.agg #[.int .i64 0, .bool true, .bool true, .bool true, .bool true], .bool true], ?_, rfl, kk⟩
  simp [results, Tryd.f23, go_sem]

set_option maxRecDepth 100000 in
set_option maxHeartbeats 4000000 in
theorem rinfo_9 (w : World) : Calls Tryd.prog 23 #[.int .i64 9] w fun e w' => e = .returned (.tuple #[.agg #[.int .i64 1, .bool true, .bool true, .bool true, .bool true], .bool true]) ∧ Keeps (fun _ => False) w w' := by
  have N : ∀ w, Calls Tryd.prog 33 #[.int .i64 9] w fun e w' => e = .returned (.string ⟨#[122, 101, 114, 111]⟩) ∧ w' = w.alloc (.cells namesA 9) := rname_yes 9 (by decide)
  have kk := (((Keeps.refl (fun _ => False) w).alloc (.cells #[.int .i64 1, .bool true, .bool true, .bool true, .bool true] 52)).alloc (.cells #[.int .i64 1, .bool true, .bool true, .bool true, .bool true] 52)).alloc (.cells namesA 9)
  go_enter Tryd.func23, Tryd.ntmps23
  go_wp2_with (go_at_call 33; refine (N _).mono ?_; rintro e w1 ⟨rfl, rfl⟩)
  refine ⟨rfl, .tuple #[.agg #[.int .i64 1, .bool true, .bool true, .bool true, .bool true], .bool true], ?_, rfl, kk⟩
  simp [results, Tryd.f23, go_sem]
end Go.Proofs.YtijommlodgpphaaDoor
