import Derived.Test.YthmiainhaebjiaaGreatDoorNbEvRc

/- Walks of the document's pair, single, Formed, turn (package parleyref13). No statement of the seat is proved here. -/
namespace Go.Proofs.YthmiainhaebjiaaGreatDoor
open Go.RowKit Go.Shelf

set_option maxRecDepth 100000 in
set_option maxHeartbeats 4000000 in
theorem rformed1 (th ad wd : Int) (own : Bool) (er : Int) (w : World) (t0 : 0 ≤ th) (t8 : th < 8) (w0 : 0 ≤ wd) : Calls Tryz.prog 84 #[.agg #[.int .i64 th, .int .i64 1, .int .u64 ad, .int .u64 wd, .bool own, .int .i64 er]] w (FP th 1 ad wd own er w) := by
  have PR : ∀ W, Calls Tryz.prog 113 #[.int .i64 1] W fun e w' => e = .returned (.bool false) ∧ W = w' := fun W => (rpair_any 1 (by decide) (by decide) W).mono (fun e w' h => ⟨h.1, h.2.symm⟩)
  have SG : ∀ W, Calls Tryz.prog 114 #[.int .i64 1] W fun e w' => e = .returned (.bool true) ∧ W = w' := fun W => (rsingle_any 1 (by decide) (by decide) W).mono (fun e w' h => ⟨h.1, h.2.symm⟩)
  have d0 : decide (th < 0) = false := decide_eq_false (by omega)
  have d1 : decide (8 ≤ th) = false := decide_eq_false (by omega)
  have tm : wd.tmod 2 = wd % 2 := by rw [Int.tmod_eq_emod_of_nonneg w0]
  by_cases had : ad = 0
  · cases own with
    | true =>
      go_enter Tryz.func84, Tryz.ntmps84
      go_wp2_with (first | (go_at_call 113; refine (PR _).mono ?_; rintro ex w' ⟨rfl, rfl⟩) | (go_at_call 114; refine (SG _).mono ?_; rintro ex w' ⟨rfl, rfl⟩))
      go_ret
      exact FP.mk (by simp [formedE, inB, bareB, lastB, adB, wdB, erB, *])
    | false =>
      by_cases hev : wd % 2 = 0
      · by_cases her : er = 0
        · go_enter Tryz.func84, Tryz.ntmps84
          go_wp2_with (first | (go_at_call 113; refine (PR _).mono ?_; rintro ex w' ⟨rfl, rfl⟩) | (go_at_call 114; refine (SG _).mono ?_; rintro ex w' ⟨rfl, rfl⟩))
          go_ret
          exact FP.mk (by simp [formedE, inB, bareB, lastB, adB, wdB, erB, *])
        · go_enter Tryz.func84, Tryz.ntmps84
          go_wp2_with (first | (go_at_call 113; refine (PR _).mono ?_; rintro ex w' ⟨rfl, rfl⟩) | (go_at_call 114; refine (SG _).mono ?_; rintro ex w' ⟨rfl, rfl⟩))
          go_ret
          exact FP.mk (by simp [formedE, inB, bareB, lastB, adB, wdB, erB, *])
      · go_enter Tryz.func84, Tryz.ntmps84
        go_wp2_with (first | (go_at_call 113; refine (PR _).mono ?_; rintro ex w' ⟨rfl, rfl⟩) | (go_at_call 114; refine (SG _).mono ?_; rintro ex w' ⟨rfl, rfl⟩))
        go_ret
        exact FP.mk (by simp [formedE, inB, bareB, lastB, adB, wdB, erB, *])
  · go_enter Tryz.func84, Tryz.ntmps84
    go_wp2_with (first | (go_at_call 113; refine (PR _).mono ?_; rintro ex w' ⟨rfl, rfl⟩) | (go_at_call 114; refine (SG _).mono ?_; rintro ex w' ⟨rfl, rfl⟩))
    go_ret
    exact FP.mk (by simp [formedE, inB, bareB, lastB, adB, wdB, erB, *])
set_option maxRecDepth 100000 in
set_option maxHeartbeats 4000000 in
theorem rformed2 (th ad wd : Int) (own : Bool) (er : Int) (w : World) (t0 : 0 ≤ th) (t8 : th < 8) (_w0 : 0 ≤ wd) : Calls Tryz.prog 84 #[.agg #[.int .i64 th, .int .i64 2, .int .u64 ad, .int .u64 wd, .bool own, .int .i64 er]] w (FP th 2 ad wd own er w) := by
  have PR : ∀ W, Calls Tryz.prog 113 #[.int .i64 2] W fun e w' => e = .returned (.bool true) ∧ W = w' := fun W => (rpair_any 2 (by decide) (by decide) W).mono (fun e w' h => ⟨h.1, h.2.symm⟩)
  have d0 : decide (th < 0) = false := decide_eq_false (by omega)
  have d1 : decide (8 ≤ th) = false := decide_eq_false (by omega)
  by_cases her : er = 0
  · go_enter Tryz.func84, Tryz.ntmps84
    go_wp2_with (first | (go_at_call 113; refine (PR _).mono ?_; rintro ex w' ⟨rfl, rfl⟩))
    go_ret
    exact FP.mk (by simp [formedE, inB, bareB, lastB, adB, wdB, erB, *])
  · go_enter Tryz.func84, Tryz.ntmps84
    go_wp2_with (first | (go_at_call 113; refine (PR _).mono ?_; rintro ex w' ⟨rfl, rfl⟩))
    go_ret
    exact FP.mk (by simp [formedE, inB, bareB, lastB, adB, wdB, erB, *])
set_option maxRecDepth 100000 in
set_option maxHeartbeats 4000000 in
theorem rformed3 (th ad wd : Int) (own : Bool) (er : Int) (w : World) (t0 : 0 ≤ th) (t8 : th < 8) (_w0 : 0 ≤ wd) : Calls Tryz.prog 84 #[.agg #[.int .i64 th, .int .i64 3, .int .u64 ad, .int .u64 wd, .bool own, .int .i64 er]] w (FP th 3 ad wd own er w) := by
  have PR : ∀ W, Calls Tryz.prog 113 #[.int .i64 3] W fun e w' => e = .returned (.bool true) ∧ W = w' := fun W => (rpair_any 3 (by decide) (by decide) W).mono (fun e w' h => ⟨h.1, h.2.symm⟩)
  have d0 : decide (th < 0) = false := decide_eq_false (by omega)
  have d1 : decide (8 ≤ th) = false := decide_eq_false (by omega)
  cases own with
  | true =>
    go_enter Tryz.func84, Tryz.ntmps84
    go_wp2_with (first | (go_at_call 113; refine (PR _).mono ?_; rintro ex w' ⟨rfl, rfl⟩))
    go_ret
    exact FP.mk (by simp [formedE, inB, bareB, lastB, adB, wdB, erB, *])
  | false =>
    by_cases her : er = 0
    · go_enter Tryz.func84, Tryz.ntmps84
      go_wp2_with (first | (go_at_call 113; refine (PR _).mono ?_; rintro ex w' ⟨rfl, rfl⟩))
      go_ret
      exact FP.mk (by simp [formedE, inB, bareB, lastB, adB, wdB, erB, *])
    · go_enter Tryz.func84, Tryz.ntmps84
      go_wp2_with (first | (go_at_call 113; refine (PR _).mono ?_; rintro ex w' ⟨rfl, rfl⟩))
      go_ret
      exact FP.mk (by simp [formedE, inB, bareB, lastB, adB, wdB, erB, *])
set_option maxRecDepth 100000 in
set_option maxHeartbeats 4000000 in
theorem rformed4 (th ad wd : Int) (own : Bool) (er : Int) (w : World) (t0 : 0 ≤ th) (t8 : th < 8) (w0 : 0 ≤ wd) : Calls Tryz.prog 84 #[.agg #[.int .i64 th, .int .i64 4, .int .u64 ad, .int .u64 wd, .bool own, .int .i64 er]] w (FP th 4 ad wd own er w) := by
  have PR : ∀ W, Calls Tryz.prog 113 #[.int .i64 4] W fun e w' => e = .returned (.bool false) ∧ W = w' := fun W => (rpair_any 4 (by decide) (by decide) W).mono (fun e w' h => ⟨h.1, h.2.symm⟩)
  have SG : ∀ W, Calls Tryz.prog 114 #[.int .i64 4] W fun e w' => e = .returned (.bool true) ∧ W = w' := fun W => (rsingle_any 4 (by decide) (by decide) W).mono (fun e w' h => ⟨h.1, h.2.symm⟩)
  have d0 : decide (th < 0) = false := decide_eq_false (by omega)
  have d1 : decide (8 ≤ th) = false := decide_eq_false (by omega)
  have tm : wd.tmod 2 = wd % 2 := by rw [Int.tmod_eq_emod_of_nonneg w0]
  by_cases had : ad = 0
  · cases own with
    | true =>
      go_enter Tryz.func84, Tryz.ntmps84
      go_wp2_with (first | (go_at_call 113; refine (PR _).mono ?_; rintro ex w' ⟨rfl, rfl⟩) | (go_at_call 114; refine (SG _).mono ?_; rintro ex w' ⟨rfl, rfl⟩))
      go_ret
      exact FP.mk (by simp [formedE, inB, bareB, lastB, adB, wdB, erB, *])
    | false =>
      by_cases hev : wd % 2 = 0
      · by_cases her : er = 0
        · go_enter Tryz.func84, Tryz.ntmps84
          go_wp2_with (first | (go_at_call 113; refine (PR _).mono ?_; rintro ex w' ⟨rfl, rfl⟩) | (go_at_call 114; refine (SG _).mono ?_; rintro ex w' ⟨rfl, rfl⟩))
          go_ret
          exact FP.mk (by simp [formedE, inB, bareB, lastB, adB, wdB, erB, *])
        · go_enter Tryz.func84, Tryz.ntmps84
          go_wp2_with (first | (go_at_call 113; refine (PR _).mono ?_; rintro ex w' ⟨rfl, rfl⟩) | (go_at_call 114; refine (SG _).mono ?_; rintro ex w' ⟨rfl, rfl⟩))
          go_ret
          exact FP.mk (by simp [formedE, inB, bareB, lastB, adB, wdB, erB, *])
      · go_enter Tryz.func84, Tryz.ntmps84
        go_wp2_with (first | (go_at_call 113; refine (PR _).mono ?_; rintro ex w' ⟨rfl, rfl⟩) | (go_at_call 114; refine (SG _).mono ?_; rintro ex w' ⟨rfl, rfl⟩))
        go_ret
        exact FP.mk (by simp [formedE, inB, bareB, lastB, adB, wdB, erB, *])
  · go_enter Tryz.func84, Tryz.ntmps84
    go_wp2_with (first | (go_at_call 113; refine (PR _).mono ?_; rintro ex w' ⟨rfl, rfl⟩) | (go_at_call 114; refine (SG _).mono ?_; rintro ex w' ⟨rfl, rfl⟩))
    go_ret
    exact FP.mk (by simp [formedE, inB, bareB, lastB, adB, wdB, erB, *])
end Go.Proofs.YthmiainhaebjiaaGreatDoor
