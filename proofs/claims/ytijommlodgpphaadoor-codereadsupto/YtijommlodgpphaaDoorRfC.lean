
/- Walks of the document's Info (package parleyref08). No statement of the seat is proved here. -/
import Derived.Test.YtijommlodgpphaaDoorRfB
namespace Go.Proofs.YtijommlodgpphaaDoor
open Go.RowKit Go.Shelf

set_option maxRecDepth 100000 in
set_option maxHeartbeats 4000000 in
theorem rinfo_10 (w : World) : Calls Tryd.prog 23 #[.int .i64 10] w fun e w' => e = .returned (.tuple #[.agg #[.int .i64 2, .bool false, .bool false, .bool true, .bool false], .bool true]) ∧ Keeps (fun _ => False) w w' := by
  have N : ∀ w, Calls Tryd.prog 33 #[.int .i64 10] w fun e w' => e = .returned (.string ⟨#[108, 111, 97, 100]⟩) ∧ w' = w.alloc (.cells namesA 9) := rname_yes 10 (by decide)
  have kk := (((Keeps.refl (fun _ => False) w).alloc (.cells #[.int .i64 2, .bool false, .bool false, .bool true, .bool false] 52)).alloc (.cells #[.int .i64 0, .bool false, .bool false, .bool true, .bool true] 52)).alloc (.cells namesA 9)
  go_enter Tryd.func23, Tryd.ntmps23
  go_wp2_with (go_at_call 33; refine (N _).mono ?_; rintro e w1 ⟨rfl, rfl⟩)
  refine ⟨rfl, .tuple #[.agg #[.int .i64 2, .bool false, .bool false, .bool true, .bool false], .bool true], ?_, rfl, kk⟩
  simp [results, Tryd.f23, go_sem]

set_option maxRecDepth 100000 in
set_option maxHeartbeats 4000000 in
theorem rinfo_11 (w : World) : Calls Tryd.prog 23 #[.int .i64 11] w fun e w' => e = .returned (.tuple #[.agg #[.int .i64 2, .bool false, .bool false, .bool true, .bool false], .bool true]) ∧ Keeps (fun _ => False) w w' := by
  have N : ∀ w, Calls Tryd.prog 33 #[.int .i64 11] w fun e w' => e = .returned (.string ⟨#[115, 116, 111, 114, 101]⟩) ∧ w' = w.alloc (.cells namesA 9) := rname_yes 11 (by decide)
  have kk := (((Keeps.refl (fun _ => False) w).alloc (.cells #[.int .i64 2, .bool false, .bool false, .bool true, .bool false] 52)).alloc (.cells #[.int .i64 0, .bool false, .bool false, .bool true, .bool true] 52)).alloc (.cells namesA 9)
  go_enter Tryd.func23, Tryd.ntmps23
  go_wp2_with (go_at_call 33; refine (N _).mono ?_; rintro e w1 ⟨rfl, rfl⟩)
  refine ⟨rfl, .tuple #[.agg #[.int .i64 2, .bool false, .bool false, .bool true, .bool false], .bool true], ?_, rfl, kk⟩
  simp [results, Tryd.f23, go_sem]

set_option maxRecDepth 100000 in
set_option maxHeartbeats 4000000 in
theorem rinfo_12 (w : World) : Calls Tryd.prog 23 #[.int .i64 12] w fun e w' => e = .returned (.tuple #[.agg #[.int .i64 0, .bool false, .bool false, .bool true, .bool false], .bool true]) ∧ Keeps (fun _ => False) w w' := by
  have N : ∀ w, Calls Tryd.prog 33 #[.int .i64 12] w fun e w' => e = .returned (.string ⟨#[98, 101, 103, 105, 110]⟩) ∧ w' = w.alloc (.cells namesA 9) := rname_yes 12 (by decide)
  have kk := (((Keeps.refl (fun _ => False) w).alloc (.cells #[.int .i64 0, .bool false, .bool false, .bool true, .bool false] 52)).alloc (.cells #[.int .i64 0, .bool false, .bool false, .bool true, .bool true] 52)).alloc (.cells namesA 9)
  go_enter Tryd.func23, Tryd.ntmps23
  go_wp2_with (go_at_call 33; refine (N _).mono ?_; rintro e w1 ⟨rfl, rfl⟩)
  refine ⟨rfl, .tuple #[.agg #[.int .i64 0, .bool false, .bool false, .bool true, .bool false], .bool true], ?_, rfl, kk⟩
  simp [results, Tryd.f23, go_sem]

set_option maxRecDepth 100000 in
set_option maxHeartbeats 4000000 in
theorem rinfo_13 (w : World) : Calls Tryd.prog 23 #[.int .i64 13] w fun e w' => e = .returned (.tuple #[.agg #[.int .i64 2, .bool false, .bool false, .bool false, .bool true], .bool true]) ∧ Keeps (fun _ => False) w w' := by
  have N : ∀ w, Calls Tryd.prog 33 #[.int .i64 13] w fun e w' => e = .returned (.string ⟨#[103, 101, 116]⟩) ∧ w' = w.alloc (.cells namesA 9) := rname_yes 13 (by decide)
  have kk := (((Keeps.refl (fun _ => False) w).alloc (.cells #[.int .i64 2, .bool false, .bool false, .bool false, .bool true] 52)).alloc (.cells #[.int .i64 0, .bool false, .bool false, .bool true, .bool true] 52)).alloc (.cells namesA 9)
  go_enter Tryd.func23, Tryd.ntmps23
  go_wp2_with (go_at_call 33; refine (N _).mono ?_; rintro e w1 ⟨rfl, rfl⟩)
  refine ⟨rfl, .tuple #[.agg #[.int .i64 2, .bool false, .bool false, .bool false, .bool true], .bool true], ?_, rfl, kk⟩
  simp [results, Tryd.f23, go_sem]

set_option maxRecDepth 100000 in
set_option maxHeartbeats 4000000 in
theorem rinfo_14 (w : World) : Calls Tryd.prog 23 #[.int .i64 14] w fun e w' => e = .returned (.tuple #[.agg #[.int .i64 2, .bool false, .bool false, .bool false, .bool true], .bool true]) ∧ Keeps (fun _ => False) w w' := by
  have N : ∀ w, Calls Tryd.prog 33 #[.int .i64 14] w fun e w' => e = .returned (.string ⟨#[112, 117, 116]⟩) ∧ w' = w.alloc (.cells namesA 9) := rname_yes 14 (by decide)
  have kk := (((Keeps.refl (fun _ => False) w).alloc (.cells #[.int .i64 2, .bool false, .bool false, .bool false, .bool true] 52)).alloc (.cells #[.int .i64 0, .bool false, .bool false, .bool true, .bool true] 52)).alloc (.cells namesA 9)
  go_enter Tryd.func23, Tryd.ntmps23
  go_wp2_with (go_at_call 33; refine (N _).mono ?_; rintro e w1 ⟨rfl, rfl⟩)
  refine ⟨rfl, .tuple #[.agg #[.int .i64 2, .bool false, .bool false, .bool false, .bool true], .bool true], ?_, rfl, kk⟩
  simp [results, Tryd.f23, go_sem]

set_option maxRecDepth 100000 in
set_option maxHeartbeats 4000000 in
theorem rinfo_15 (w : World) : Calls Tryd.prog 23 #[.int .i64 15] w fun e w' => e = .returned (.tuple #[.agg #[.int .i64 0, .bool false, .bool false, .bool false, .bool true], .bool true]) ∧ Keeps (fun _ => False) w w' := by
  have N : ∀ w, Calls Tryd.prog 33 #[.int .i64 15] w fun e w' => e = .returned (.string ⟨#[101, 110, 100]⟩) ∧ w' = w.alloc (.cells namesA 9) := rname_yes 15 (by decide)
  have kk := (((Keeps.refl (fun _ => False) w).alloc (.cells #[.int .i64 0, .bool false, .bool false, .bool false, .bool true] 52)).alloc (.cells #[.int .i64 0, .bool false, .bool false, .bool true, .bool true] 52)).alloc (.cells namesA 9)
  go_enter Tryd.func23, Tryd.ntmps23
  go_wp2_with (go_at_call 33; refine (N _).mono ?_; rintro e w1 ⟨rfl, rfl⟩)
  refine ⟨rfl, .tuple #[.agg #[.int .i64 0, .bool false, .bool false, .bool false, .bool true], .bool true], ?_, rfl, kk⟩
  simp [results, Tryd.f23, go_sem]

set_option maxRecDepth 100000 in
set_option maxHeartbeats 4000000 in
theorem rinfo_16 (w : World) : Calls Tryd.prog 23 #[.int .i64 16] w fun e w' => e = .returned (.tuple #[.agg #[.int .i64 0, .bool true, .bool true, .bool false, .bool true], .bool true]) ∧ Keeps (fun _ => False) w w' := by
  have N : ∀ w, Calls Tryd.prog 33 #[.int .i64 16] w fun e w' => e = .returned (.string ⟨#[97, 98, 111, 114, 116]⟩) ∧ w' = w.alloc (.cells namesA 9) := rname_yes 16 (by decide)
  have kk := (((Keeps.refl (fun _ => False) w).alloc (.cells #[.int .i64 0, .bool true, .bool true, .bool false, .bool true] 52)).alloc (.cells #[.int .i64 0, .bool false, .bool false, .bool true, .bool true] 52)).alloc (.cells namesA 9)
  go_enter Tryd.func23, Tryd.ntmps23
  go_wp2_with (go_at_call 33; refine (N _).mono ?_; rintro e w1 ⟨rfl, rfl⟩)
  refine ⟨rfl, .tuple #[.agg #[.int .i64 0, .bool true, .bool true, .bool false, .bool true], .bool true], ?_, rfl, kk⟩
  simp [results, Tryd.f23, go_sem]

set_option maxRecDepth 100000 in
set_option maxHeartbeats 4000000 in
theorem rinfo_17 (w : World) : Calls Tryd.prog 23 #[.int .i64 17] w fun e w' => e = .returned (.tuple #[.agg #[.int .i64 0, .bool false, .bool false, .bool true, .bool false], .bool true]) ∧ Keeps (fun _ => False) w w' := by
  have N : ∀ w, Calls Tryd.prog 33 #[.int .i64 17] w fun e w' => e = .returned (.string ⟨#[104, 97, 108, 116]⟩) ∧ w' = w.alloc (.cells namesA 9) := rname_yes 17 (by decide)
  have kk := (((Keeps.refl (fun _ => False) w).alloc (.cells #[.int .i64 0, .bool false, .bool false, .bool true, .bool false] 52)).alloc (.cells #[.int .i64 0, .bool false, .bool false, .bool true, .bool true] 52)).alloc (.cells namesA 9)
  go_enter Tryd.func23, Tryd.ntmps23
  go_wp2_with (go_at_call 33; refine (N _).mono ?_; rintro e w1 ⟨rfl, rfl⟩)
  refine ⟨rfl, .tuple #[.agg #[.int .i64 0, .bool false, .bool false, .bool true, .bool false], .bool true], ?_, rfl, kk⟩
  simp [results, Tryd.f23, go_sem]

set_option maxRecDepth 100000 in
set_option maxHeartbeats 4000000 in
theorem rinfo_0 (w : World) : Calls Tryd.prog 23 #[.int .i64 0] w fun e w' => e = .returned (.tuple #[.agg #[.int .i64 0, .bool false, .bool false, .bool false, .bool false], .bool false]) ∧ Keeps (fun _ => False) w w' := by
  have N : ∀ w, Calls Tryd.prog 33 #[.int .i64 0] w fun e w' => e = .returned (.string ⟨#[]⟩) ∧ w' = w.alloc (.cells namesA 9) := rname_yes 0 (by decide)
  have kk := (((Keeps.refl (fun _ => False) w).alloc (.cells #[.int .i64 0, .bool false, .bool false, .bool false, .bool false] 52)).alloc (.cells #[.int .i64 0, .bool false, .bool false, .bool true, .bool true] 52)).alloc (.cells namesA 9)
  go_enter Tryd.func23, Tryd.ntmps23
  go_wp2_with (go_at_call 33; refine (N _).mono ?_; rintro e w1 ⟨rfl, rfl⟩)
  refine ⟨rfl, .tuple #[.agg #[.int .i64 0, .bool false, .bool false, .bool false, .bool false], .bool false], ?_, rfl, kk⟩
  simp [results, Tryd.f23, go_sem]

set_option maxRecDepth 100000 in
set_option maxHeartbeats 4000000 in
theorem rinfo_off (op : Int) (h : op < 0 ∨ 18 ≤ op) (w : World) : Calls Tryd.prog 23 #[.int .i64 op] w fun e w' => e = .returned (.tuple #[.agg #[.int .i64 0, .bool false, .bool false, .bool false, .bool false], .bool false]) ∧ Keeps (fun _ => False) w w' := by
  have N : ∀ w, Calls Tryd.prog 33 #[.int .i64 op] w fun e w' => e = .returned (.string ⟨#[]⟩) ∧ w' = w.alloc (.cells namesA 9) := rname_no op h
  have kk := (((Keeps.refl (fun _ => False) w).alloc (.cells #[.int .i64 0, .bool false, .bool false, .bool false, .bool false] 52)).alloc (.cells #[.int .i64 0, .bool false, .bool false, .bool true, .bool true] 52)).alloc (.cells namesA 9)
  go_enter Tryd.func23, Tryd.ntmps23
  go_wp2_with (go_at_call 33; refine (N _).mono ?_; rintro e w1 ⟨rfl, rfl⟩)
  refine ⟨rfl, .tuple #[.agg #[.int .i64 0, .bool false, .bool false, .bool false, .bool false], .bool false], ?_, rfl, kk⟩
  simp [results, Tryd.f23, go_sem]

theorem rinfo_yes (op : Int) (h0 : 1 ≤ op) (h1 : op ≤ 17) (w : World) : Calls Tryd.prog 23 #[.int .i64 op] w fun e w' => e = .returned (.tuple #[.agg #[.int .i64 (regsN op), .bool (numB op), .bool (tgtB op), .bool (outB op), .bool (insB op)], .bool true]) ∧ Keeps (fun _ => False) w w' := by
  rcases op17 h0 h1 with rfl | rfl | rfl | rfl | rfl | rfl | rfl | rfl | rfl | rfl | rfl | rfl | rfl | rfl | rfl | rfl | rfl
  · exact rinfo_1 w
  · exact rinfo_2 w
  · exact rinfo_3 w
  · exact rinfo_4 w
  · exact rinfo_5 w
  · exact rinfo_6 w
  · exact rinfo_7 w
  · exact rinfo_8 w
  · exact rinfo_9 w
  · exact rinfo_10 w
  · exact rinfo_11 w
  · exact rinfo_12 w
  · exact rinfo_13 w
  · exact rinfo_14 w
  · exact rinfo_15 w
  · exact rinfo_16 w
  · exact rinfo_17 w

theorem rinfo_no (op : Int) (h : op < 1 ∨ 17 < op) (w : World) : Calls Tryd.prog 23 #[.int .i64 op] w fun e w' => e = .returned (.tuple #[.agg #[.int .i64 0, .bool false, .bool false, .bool false, .bool false], .bool false]) ∧ Keeps (fun _ => False) w w' := by
  by_cases h0 : op = 0
  · subst h0; exact rinfo_0 w
  · exact rinfo_off op (by omega) w
end Go.Proofs.YtijommlodgpphaaDoor
