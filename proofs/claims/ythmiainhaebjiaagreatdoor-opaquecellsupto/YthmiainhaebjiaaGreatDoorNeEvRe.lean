import Derived.Test.YthmiainhaebjiaaGreatDoorNbEvRc

/- Walks of the document's pair, single, Formed, turn (package parleyref13). No statement of the seat is proved here. -/
namespace Go.Proofs.YthmiainhaebjiaaGreatDoor
open Go.RowKit Go.Shelf

set_option maxRecDepth 100000 in
set_option maxHeartbeats 4000000 in
theorem rformed9 (th ad wd : Int) (own : Bool) (er : Int) (w : World) (t0 : 0 ≤ th) (t8 : th < 8) (_w0 : 0 ≤ wd) : Calls Tryz.prog 84 #[.agg #[.int .i64 th, .int .i64 9, .int .u64 ad, .int .u64 wd, .bool own, .int .i64 er]] w (FP th 9 ad wd own er w) := by
  have PR : ∀ W, Calls Tryz.prog 113 #[.int .i64 9] W fun e w' => e = .returned (.bool false) ∧ W = w' := fun W => (rpair_any 9 (by decide) (by decide) W).mono (fun e w' h => ⟨h.1, h.2.symm⟩)
  have SG : ∀ W, Calls Tryz.prog 114 #[.int .i64 9] W fun e w' => e = .returned (.bool false) ∧ W = w' := fun W => (rsingle_any 9 (by decide) (by decide) W).mono (fun e w' h => ⟨h.1, h.2.symm⟩)
  have d0 : decide (th < 0) = false := decide_eq_false (by omega)
  have d1 : decide (8 ≤ th) = false := decide_eq_false (by omega)
  by_cases had : ad = 0
  · by_cases hwd : wd = 0
    · cases own with
      | true =>
        go_enter Tryz.func84, Tryz.ntmps84
        go_wp2_with (first | (go_at_call 113; refine (PR _).mono ?_; rintro ex w' ⟨rfl, rfl⟩) | (go_at_call 114; refine (SG _).mono ?_; rintro ex w' ⟨rfl, rfl⟩))
        go_ret
        exact FP.mk (by simp [formedE, inB, bareB, lastB, adB, wdB, erB, *])
      | false =>
        by_cases h4 : er = 4
        · go_enter Tryz.func84, Tryz.ntmps84
          go_wp2_with (first | (go_at_call 113; refine (PR _).mono ?_; rintro ex w' ⟨rfl, rfl⟩) | (go_at_call 114; refine (SG _).mono ?_; rintro ex w' ⟨rfl, rfl⟩))
          go_ret
          exact FP.mk (by simp [formedE, inB, bareB, lastB, adB, wdB, erB, *])
        · by_cases h5 : er = 5
          · go_enter Tryz.func84, Tryz.ntmps84
            go_wp2_with (first | (go_at_call 113; refine (PR _).mono ?_; rintro ex w' ⟨rfl, rfl⟩) | (go_at_call 114; refine (SG _).mono ?_; rintro ex w' ⟨rfl, rfl⟩))
            go_ret
            exact FP.mk (by simp [formedE, inB, bareB, lastB, adB, wdB, erB, *])
          · by_cases h6 : er = 6
            · go_enter Tryz.func84, Tryz.ntmps84
              go_wp2_with (first | (go_at_call 113; refine (PR _).mono ?_; rintro ex w' ⟨rfl, rfl⟩) | (go_at_call 114; refine (SG _).mono ?_; rintro ex w' ⟨rfl, rfl⟩))
              go_ret
              exact FP.mk (by simp [formedE, inB, bareB, lastB, adB, wdB, erB, *])
            · go_enter Tryz.func84, Tryz.ntmps84
              go_wp2_with (first | (go_at_call 113; refine (PR _).mono ?_; rintro ex w' ⟨rfl, rfl⟩) | (go_at_call 114; refine (SG _).mono ?_; rintro ex w' ⟨rfl, rfl⟩))
              go_ret
              exact FP.mk (by simp [formedE, inB, bareB, lastB, adB, wdB, erB, *])
    · go_enter Tryz.func84, Tryz.ntmps84
      go_wp2_with (first | (go_at_call 113; refine (PR _).mono ?_; rintro ex w' ⟨rfl, rfl⟩) | (go_at_call 114; refine (SG _).mono ?_; rintro ex w' ⟨rfl, rfl⟩))
      go_ret
      exact FP.mk (by simp [formedE, inB, bareB, lastB, adB, wdB, erB, *])
  · go_enter Tryz.func84, Tryz.ntmps84
    go_wp2_with (first | (go_at_call 113; refine (PR _).mono ?_; rintro ex w' ⟨rfl, rfl⟩) | (go_at_call 114; refine (SG _).mono ?_; rintro ex w' ⟨rfl, rfl⟩))
    go_ret
    exact FP.mk (by simp [formedE, inB, bareB, lastB, adB, wdB, erB, *])
set_option maxRecDepth 100000 in
set_option maxHeartbeats 4000000 in
theorem rformed10 (th ad wd : Int) (own : Bool) (er : Int) (w : World) (t0 : 0 ≤ th) (t8 : th < 8) (_w0 : 0 ≤ wd) : Calls Tryz.prog 84 #[.agg #[.int .i64 th, .int .i64 10, .int .u64 ad, .int .u64 wd, .bool own, .int .i64 er]] w (FP th 10 ad wd own er w) := by
  have PR : ∀ W, Calls Tryz.prog 113 #[.int .i64 10] W fun e w' => e = .returned (.bool true) ∧ W = w' := fun W => (rpair_any 10 (by decide) (by decide) W).mono (fun e w' h => ⟨h.1, h.2.symm⟩)
  have d0 : decide (th < 0) = false := decide_eq_false (by omega)
  have d1 : decide (8 ≤ th) = false := decide_eq_false (by omega)
  cases own with
  | true =>
    go_enter Tryz.func84, Tryz.ntmps84
    go_wp2_with (first | (go_at_call 113; refine (PR _).mono ?_; rintro ex w' ⟨rfl, rfl⟩))
    go_ret
    exact FP.mk (by simp [formedE, inB, bareB, lastB, adB, wdB, erB, *])
  | false =>
    by_cases her : er = 0
    · go_enter Tryz.func84, Tryz.ntmps84
      go_wp2_with (first | (go_at_call 113; refine (PR _).mono ?_; rintro ex w' ⟨rfl, rfl⟩))
      go_ret
      exact FP.mk (by simp [formedE, inB, bareB, lastB, adB, wdB, erB, *])
    · go_enter Tryz.func84, Tryz.ntmps84
      go_wp2_with (first | (go_at_call 113; refine (PR _).mono ?_; rintro ex w' ⟨rfl, rfl⟩))
      go_ret
      exact FP.mk (by simp [formedE, inB, bareB, lastB, adB, wdB, erB, *])
set_option maxRecDepth 100000 in
set_option maxHeartbeats 4000000 in
theorem rformed11 (th ad wd : Int) (own : Bool) (er : Int) (w : World) (t0 : 0 ≤ th) (t8 : th < 8) (_w0 : 0 ≤ wd) : Calls Tryz.prog 84 #[.agg #[.int .i64 th, .int .i64 11, .int .u64 ad, .int .u64 wd, .bool own, .int .i64 er]] w (FP th 11 ad wd own er w) := by
  have PR : ∀ W, Calls Tryz.prog 113 #[.int .i64 11] W fun e w' => e = .returned (.bool true) ∧ W = w' := fun W => (rpair_any 11 (by decide) (by decide) W).mono (fun e w' h => ⟨h.1, h.2.symm⟩)
  have d0 : decide (th < 0) = false := decide_eq_false (by omega)
  have d1 : decide (8 ≤ th) = false := decide_eq_false (by omega)
  cases own with
  | true =>
    go_enter Tryz.func84, Tryz.ntmps84
    go_wp2_with (first | (go_at_call 113; refine (PR _).mono ?_; rintro ex w' ⟨rfl, rfl⟩))
    go_ret
    exact FP.mk (by simp [formedE, inB, bareB, lastB, adB, wdB, erB, *])
  | false =>
    by_cases her : er = 0
    · go_enter Tryz.func84, Tryz.ntmps84
      go_wp2_with (first | (go_at_call 113; refine (PR _).mono ?_; rintro ex w' ⟨rfl, rfl⟩))
      go_ret
      exact FP.mk (by simp [formedE, inB, bareB, lastB, adB, wdB, erB, *])
    · go_enter Tryz.func84, Tryz.ntmps84
      go_wp2_with (first | (go_at_call 113; refine (PR _).mono ?_; rintro ex w' ⟨rfl, rfl⟩))
      go_ret
      exact FP.mk (by simp [formedE, inB, bareB, lastB, adB, wdB, erB, *])
set_option maxRecDepth 100000 in
set_option maxHeartbeats 4000000 in
theorem rformed12 (th ad wd : Int) (own : Bool) (er : Int) (w : World) (t0 : 0 ≤ th) (t8 : th < 8) (_w0 : 0 ≤ wd) : Calls Tryz.prog 84 #[.agg #[.int .i64 th, .int .i64 12, .int .u64 ad, .int .u64 wd, .bool own, .int .i64 er]] w (FP th 12 ad wd own er w) := by
  have PR : ∀ W, Calls Tryz.prog 113 #[.int .i64 12] W fun e w' => e = .returned (.bool false) ∧ W = w' := fun W => (rpair_any 12 (by decide) (by decide) W).mono (fun e w' h => ⟨h.1, h.2.symm⟩)
  have SG : ∀ W, Calls Tryz.prog 114 #[.int .i64 12] W fun e w' => e = .returned (.bool false) ∧ W = w' := fun W => (rsingle_any 12 (by decide) (by decide) W).mono (fun e w' h => ⟨h.1, h.2.symm⟩)
  have d0 : decide (th < 0) = false := decide_eq_false (by omega)
  have d1 : decide (8 ≤ th) = false := decide_eq_false (by omega)
  by_cases had : ad = 0
  · by_cases hwd : wd = 0
    · cases own with
      | true =>
        go_enter Tryz.func84, Tryz.ntmps84
        go_wp2_with (first | (go_at_call 113; refine (PR _).mono ?_; rintro ex w' ⟨rfl, rfl⟩) | (go_at_call 114; refine (SG _).mono ?_; rintro ex w' ⟨rfl, rfl⟩))
        go_ret
        exact FP.mk (by simp [formedE, inB, bareB, lastB, adB, wdB, erB, *])
      | false =>
        by_cases her : er = 0
        · go_enter Tryz.func84, Tryz.ntmps84
          go_wp2_with (first | (go_at_call 113; refine (PR _).mono ?_; rintro ex w' ⟨rfl, rfl⟩) | (go_at_call 114; refine (SG _).mono ?_; rintro ex w' ⟨rfl, rfl⟩))
          go_ret
          exact FP.mk (by simp [formedE, inB, bareB, lastB, adB, wdB, erB, *])
        · go_enter Tryz.func84, Tryz.ntmps84
          go_wp2_with (first | (go_at_call 113; refine (PR _).mono ?_; rintro ex w' ⟨rfl, rfl⟩) | (go_at_call 114; refine (SG _).mono ?_; rintro ex w' ⟨rfl, rfl⟩))
          go_ret
          exact FP.mk (by simp [formedE, inB, bareB, lastB, adB, wdB, erB, *])
    · go_enter Tryz.func84, Tryz.ntmps84
      go_wp2_with (first | (go_at_call 113; refine (PR _).mono ?_; rintro ex w' ⟨rfl, rfl⟩) | (go_at_call 114; refine (SG _).mono ?_; rintro ex w' ⟨rfl, rfl⟩))
      go_ret
      exact FP.mk (by simp [formedE, inB, bareB, lastB, adB, wdB, erB, *])
  · go_enter Tryz.func84, Tryz.ntmps84
    go_wp2_with (first | (go_at_call 113; refine (PR _).mono ?_; rintro ex w' ⟨rfl, rfl⟩) | (go_at_call 114; refine (SG _).mono ?_; rintro ex w' ⟨rfl, rfl⟩))
    go_ret
    exact FP.mk (by simp [formedE, inB, bareB, lastB, adB, wdB, erB, *])
end Go.Proofs.YthmiainhaebjiaaGreatDoor
