import Derived.Test.YthmiainhaebjiaaGreatDoorNbEvRc

/- Walks of the document's pair, single, Formed, turn (package parleyref13). No statement of the seat is proved here. -/
namespace Go.Proofs.YthmiainhaebjiaaGreatDoor
open Go.RowKit Go.Shelf

set_option maxRecDepth 100000 in
set_option maxHeartbeats 4000000 in
theorem rformed5 (th ad wd : Int) (own : Bool) (er : Int) (w : World) (t0 : 0 ≤ th) (t8 : th < 8) (_w0 : 0 ≤ wd) : Calls Tryz.prog 84 #[.agg #[.int .i64 th, .int .i64 5, .int .u64 ad, .int .u64 wd, .bool own, .int .i64 er]] w (FP th 5 ad wd own er w) := by
  have PR : ∀ W, Calls Tryz.prog 113 #[.int .i64 5] W fun e w' => e = .returned (.bool false) ∧ W = w' := fun W => (rpair_any 5 (by decide) (by decide) W).mono (fun e w' h => ⟨h.1, h.2.symm⟩)
  have SG : ∀ W, Calls Tryz.prog 114 #[.int .i64 5] W fun e w' => e = .returned (.bool false) ∧ W = w' := fun W => (rsingle_any 5 (by decide) (by decide) W).mono (fun e w' h => ⟨h.1, h.2.symm⟩)
  have d0 : decide (th < 0) = false := decide_eq_false (by omega)
  have d1 : decide (8 ≤ th) = false := decide_eq_false (by omega)
  by_cases had : ad = 0
  · by_cases hwd : wd = 0
    · cases own with
      | true =>
        go_enter Tryz.func84, Tryz.ntmps84
        go_wp2_with (first | (go_at_call 113; refine (PR _).mono ?_; rintro ex w' ⟨rfl, rfl⟩) | (go_at_call 114; refine (SG _).mono ?_; rintro ex w' ⟨rfl, rfl⟩))
        go_ret
        exact FP.mk (by simp [formedE, inB, bareB, lastB, adB, wdB, erB, *])
      | false =>
        by_cases her : er = 0
        · go_enter Tryz.func84, Tryz.ntmps84
          go_wp2_with (first | (go_at_call 113; refine (PR _).mono ?_; rintro ex w' ⟨rfl, rfl⟩) | (go_at_call 114; refine (SG _).mono ?_; rintro ex w' ⟨rfl, rfl⟩))
          go_ret
          exact FP.mk (by simp [formedE, inB, bareB, lastB, adB, wdB, erB, *])
        · go_enter Tryz.func84, Tryz.ntmps84
          go_wp2_with (first | (go_at_call 113; refine (PR _).mono ?_; rintro ex w' ⟨rfl, rfl⟩) | (go_at_call 114; refine (SG _).mono ?_; rintro ex w' ⟨rfl, rfl⟩))
          go_ret
          exact FP.mk (by simp [formedE, inB, bareB, lastB, adB, wdB, erB, *])
    · go_enter Tryz.func84, Tryz.ntmps84
      go_wp2_with (first | (go_at_call 113; refine (PR _).mono ?_; rintro ex w' ⟨rfl, rfl⟩) | (go_at_call 114; refine (SG _).mono ?_; rintro ex w' ⟨rfl, rfl⟩))
      go_ret
      exact FP.mk (by simp [formedE, inB, bareB, lastB, adB, wdB, erB, *])
  · go_enter Tryz.func84, Tryz.ntmps84
    go_wp2_with (first | (go_at_call 113; refine (PR _).mono ?_; rintro ex w' ⟨rfl, rfl⟩) | (go_at_call 114; refine (SG _).mono ?_; rintro ex w' ⟨rfl, rfl⟩))
    go_ret
    exact FP.mk (by simp [formedE, inB, bareB, lastB, adB, wdB, erB, *])
set_option maxRecDepth 100000 in
set_option maxHeartbeats 4000000 in
theorem rformed6 (th ad wd : Int) (own : Bool) (er : Int) (w : World) (t0 : 0 ≤ th) (t8 : th < 8) (_w0 : 0 ≤ wd) : Calls Tryz.prog 84 #[.agg #[.int .i64 th, .int .i64 6, .int .u64 ad, .int .u64 wd, .bool own, .int .i64 er]] w (FP th 6 ad wd own er w) := by
  have PR : ∀ W, Calls Tryz.prog 113 #[.int .i64 6] W fun e w' => e = .returned (.bool false) ∧ W = w' := fun W => (rpair_any 6 (by decide) (by decide) W).mono (fun e w' h => ⟨h.1, h.2.symm⟩)
  have SG : ∀ W, Calls Tryz.prog 114 #[.int .i64 6] W fun e w' => e = .returned (.bool true) ∧ W = w' := fun W => (rsingle_any 6 (by decide) (by decide) W).mono (fun e w' h => ⟨h.1, h.2.symm⟩)
  have d0 : decide (th < 0) = false := decide_eq_false (by omega)
  have d1 : decide (8 ≤ th) = false := decide_eq_false (by omega)
  by_cases had : ad = 0
  · cases own with
    | true =>
      go_enter Tryz.func84, Tryz.ntmps84
      go_wp2_with (first | (go_at_call 113; refine (PR _).mono ?_; rintro ex w' ⟨rfl, rfl⟩) | (go_at_call 114; refine (SG _).mono ?_; rintro ex w' ⟨rfl, rfl⟩))
      go_ret
      exact FP.mk (by simp [formedE, inB, bareB, lastB, adB, wdB, erB, *])
    | false =>
      by_cases her : er = 0
      · go_enter Tryz.func84, Tryz.ntmps84
        go_wp2_with (first | (go_at_call 113; refine (PR _).mono ?_; rintro ex w' ⟨rfl, rfl⟩) | (go_at_call 114; refine (SG _).mono ?_; rintro ex w' ⟨rfl, rfl⟩))
        go_ret
        exact FP.mk (by simp [formedE, inB, bareB, lastB, adB, wdB, erB, *])
      · go_enter Tryz.func84, Tryz.ntmps84
        go_wp2_with (first | (go_at_call 113; refine (PR _).mono ?_; rintro ex w' ⟨rfl, rfl⟩) | (go_at_call 114; refine (SG _).mono ?_; rintro ex w' ⟨rfl, rfl⟩))
        go_ret
        exact FP.mk (by simp [formedE, inB, bareB, lastB, adB, wdB, erB, *])
  · go_enter Tryz.func84, Tryz.ntmps84
    go_wp2_with (first | (go_at_call 113; refine (PR _).mono ?_; rintro ex w' ⟨rfl, rfl⟩) | (go_at_call 114; refine (SG _).mono ?_; rintro ex w' ⟨rfl, rfl⟩))
    go_ret
    exact FP.mk (by simp [formedE, inB, bareB, lastB, adB, wdB, erB, *])
set_option maxRecDepth 100000 in
set_option maxHeartbeats 4000000 in
theorem rformed7 (th ad wd : Int) (own : Bool) (er : Int) (w : World) (t0 : 0 ≤ th) (t8 : th < 8) (_w0 : 0 ≤ wd) : Calls Tryz.prog 84 #[.agg #[.int .i64 th, .int .i64 7, .int .u64 ad, .int .u64 wd, .bool own, .int .i64 er]] w (FP th 7 ad wd own er w) := by
  have PR : ∀ W, Calls Tryz.prog 113 #[.int .i64 7] W fun e w' => e = .returned (.bool false) ∧ W = w' := fun W => (rpair_any 7 (by decide) (by decide) W).mono (fun e w' h => ⟨h.1, h.2.symm⟩)
  have SG : ∀ W, Calls Tryz.prog 114 #[.int .i64 7] W fun e w' => e = .returned (.bool false) ∧ W = w' := fun W => (rsingle_any 7 (by decide) (by decide) W).mono (fun e w' h => ⟨h.1, h.2.symm⟩)
  have d0 : decide (th < 0) = false := decide_eq_false (by omega)
  have d1 : decide (8 ≤ th) = false := decide_eq_false (by omega)
  by_cases had : ad = 0
  · by_cases hwd : wd = 0
    · cases own with
      | true =>
        go_enter Tryz.func84, Tryz.ntmps84
        go_wp2_with (first | (go_at_call 113; refine (PR _).mono ?_; rintro ex w' ⟨rfl, rfl⟩) | (go_at_call 114; refine (SG _).mono ?_; rintro ex w' ⟨rfl, rfl⟩))
        go_ret
        exact FP.mk (by simp [formedE, inB, bareB, lastB, adB, wdB, erB, *])
      | false =>
        by_cases her : er = 0
        · go_enter Tryz.func84, Tryz.ntmps84
          go_wp2_with (first | (go_at_call 113; refine (PR _).mono ?_; rintro ex w' ⟨rfl, rfl⟩) | (go_at_call 114; refine (SG _).mono ?_; rintro ex w' ⟨rfl, rfl⟩))
          go_ret
          exact FP.mk (by simp [formedE, inB, bareB, lastB, adB, wdB, erB, *])
        · go_enter Tryz.func84, Tryz.ntmps84
          go_wp2_with (first | (go_at_call 113; refine (PR _).mono ?_; rintro ex w' ⟨rfl, rfl⟩) | (go_at_call 114; refine (SG _).mono ?_; rintro ex w' ⟨rfl, rfl⟩))
          go_ret
          exact FP.mk (by simp [formedE, inB, bareB, lastB, adB, wdB, erB, *])
    · go_enter Tryz.func84, Tryz.ntmps84
      go_wp2_with (first | (go_at_call 113; refine (PR _).mono ?_; rintro ex w' ⟨rfl, rfl⟩) | (go_at_call 114; refine (SG _).mono ?_; rintro ex w' ⟨rfl, rfl⟩))
      go_ret
      exact FP.mk (by simp [formedE, inB, bareB, lastB, adB, wdB, erB, *])
  · go_enter Tryz.func84, Tryz.ntmps84
    go_wp2_with (first | (go_at_call 113; refine (PR _).mono ?_; rintro ex w' ⟨rfl, rfl⟩) | (go_at_call 114; refine (SG _).mono ?_; rintro ex w' ⟨rfl, rfl⟩))
    go_ret
    exact FP.mk (by simp [formedE, inB, bareB, lastB, adB, wdB, erB, *])
set_option maxRecDepth 100000 in
set_option maxHeartbeats 4000000 in
theorem rformed8 (th ad wd : Int) (own : Bool) (er : Int) (w : World) (t0 : 0 ≤ th) (t8 : th < 8) (_w0 : 0 ≤ wd) : Calls Tryz.prog 84 #[.agg #[.int .i64 th, .int .i64 8, .int .u64 ad, .int .u64 wd, .bool own, .int .i64 er]] w (FP th 8 ad wd own er w) := by
  have PR : ∀ W, Calls Tryz.prog 113 #[.int .i64 8] W fun e w' => e = .returned (.bool false) ∧ W = w' := fun W => (rpair_any 8 (by decide) (by decide) W).mono (fun e w' h => ⟨h.1, h.2.symm⟩)
  have SG : ∀ W, Calls Tryz.prog 114 #[.int .i64 8] W fun e w' => e = .returned (.bool false) ∧ W = w' := fun W => (rsingle_any 8 (by decide) (by decide) W).mono (fun e w' h => ⟨h.1, h.2.symm⟩)
  have d0 : decide (th < 0) = false := decide_eq_false (by omega)
  have d1 : decide (8 ≤ th) = false := decide_eq_false (by omega)
  by_cases had : ad = 0
  · by_cases hwd : wd = 0
    · cases own with
      | true =>
        go_enter Tryz.func84, Tryz.ntmps84
        go_wp2_with (first | (go_at_call 113; refine (PR _).mono ?_; rintro ex w' ⟨rfl, rfl⟩) | (go_at_call 114; refine (SG _).mono ?_; rintro ex w' ⟨rfl, rfl⟩))
        go_ret
        exact FP.mk (by simp [formedE, inB, bareB, lastB, adB, wdB, erB, *])
      | false =>
        by_cases her : er = 0
        · go_enter Tryz.func84, Tryz.ntmps84
          go_wp2_with (first | (go_at_call 113; refine (PR _).mono ?_; rintro ex w' ⟨rfl, rfl⟩) | (go_at_call 114; refine (SG _).mono ?_; rintro ex w' ⟨rfl, rfl⟩))
          go_ret
          exact FP.mk (by simp [formedE, inB, bareB, lastB, adB, wdB, erB, *])
        · go_enter Tryz.func84, Tryz.ntmps84
          go_wp2_with (first | (go_at_call 113; refine (PR _).mono ?_; rintro ex w' ⟨rfl, rfl⟩) | (go_at_call 114; refine (SG _).mono ?_; rintro ex w' ⟨rfl, rfl⟩))
          go_ret
          exact FP.mk (by simp [formedE, inB, bareB, lastB, adB, wdB, erB, *])
    · go_enter Tryz.func84, Tryz.ntmps84
      go_wp2_with (first | (go_at_call 113; refine (PR _).mono ?_; rintro ex w' ⟨rfl, rfl⟩) | (go_at_call 114; refine (SG _).mono ?_; rintro ex w' ⟨rfl, rfl⟩))
      go_ret
      exact FP.mk (by simp [formedE, inB, bareB, lastB, adB, wdB, erB, *])
  · go_enter Tryz.func84, Tryz.ntmps84
    go_wp2_with (first | (go_at_call 113; refine (PR _).mono ?_; rintro ex w' ⟨rfl, rfl⟩) | (go_at_call 114; refine (SG _).mono ?_; rintro ex w' ⟨rfl, rfl⟩))
    go_ret
    exact FP.mk (by simp [formedE, inB, bareB, lastB, adB, wdB, erB, *])
end Go.Proofs.YthmiainhaebjiaaGreatDoor
