/-
  No statement of the seat is proved here. (Several texts in one: EvRc, EvRa, EvRd, EvRe, EvRb.)
-/
import Derived.Test.YtjkileijkgbndaaDoorEvB

/- Walks of the document's pair, single, Formed, turn (package parleyref13). No statement of the seat is proved here. -/
namespace Go.Proofs.YtjkileijkgbndaaDoor
open Go.RowKit Go.Shelf

theorem rpair_any (k : Int) (h0 : 1 ≤ k) (h1 : k ≤ 12) (w : World) : Calls Tryd.prog 49 #[.int .i64 k] w fun e w' => e = .returned (.bool (adB k)) ∧ w' = w := by
  rcases kd12 h0 h1 with rfl | rfl | rfl | rfl | rfl | rfl | rfl | rfl | rfl | rfl | rfl | rfl
  all_goals
    go_enter Tryd.func49, Tryd.ntmps49
    go_wp2
    go_ret
    exact ⟨rfl, rfl⟩
theorem rsingle_any (k : Int) (h0 : 1 ≤ k) (h1 : k ≤ 12) (w : World) : Calls Tryd.prog 50 #[.int .i64 k] w fun e w' => e = .returned (.bool (!adB k && wdB k)) ∧ w' = w := by
  rcases kd12 h0 h1 with rfl | rfl | rfl | rfl | rfl | rfl | rfl | rfl | rfl | rfl | rfl | rfl
  all_goals
    go_enter Tryd.func50, Tryd.ntmps50
    go_wp2
    go_ret
    exact ⟨rfl, rfl⟩
def FP (th kd ad wd : Int) (own : Bool) (er : Int) (w : World) : Ending → World → Prop := fun e w' => e = .returned (.bool (formedE ⟨th, kd, ad, wd, own, er⟩)) ∧ Keeps (fun _ => False) w w'
theorem FP.mk {th kd ad wd : Int} {own b : Bool} {er : Int} {w : World} {o : Obj} (h : formedE ⟨th, kd, ad, wd, own, er⟩ = b) : FP th kd ad wd own er w (.returned (.bool b)) (w.alloc o) := ⟨by rw [h], (Keeps.refl _ w).alloc o⟩
end Go.Proofs.YtjkileijkgbndaaDoor


/- Walks of the document's pair, single, Formed, turn (package parleyref13). No statement of the seat is proved here. -/
namespace Go.Proofs.YtjkileijkgbndaaDoor
open Go.RowKit Go.Shelf

set_option maxRecDepth 100000 in
set_option maxHeartbeats 4000000 in
theorem rformed1 (th ad wd : Int) (own : Bool) (er : Int) (w : World) (t0 : 0 ≤ th) (t8 : th < 8) (w0 : 0 ≤ wd) : Calls Tryd.prog 36 #[.agg #[.int .i64 th, .int .i64 1, .int .u64 ad, .int .u64 wd, .bool own, .int .i64 er]] w (FP th 1 ad wd own er w) := by
  have PR : ∀ W, Calls Tryd.prog 49 #[.int .i64 1] W fun e w' => e = .returned (.bool false) ∧ W = w' := fun W => (rpair_any 1 (by decide) (by decide) W).mono (fun e w' h => ⟨h.1, h.2.symm⟩)
  have SG : ∀ W, Calls Tryd.prog 50 #[.int .i64 1] W fun e w' => e = .returned (.bool true) ∧ W = w' := fun W => (rsingle_any 1 (by decide) (by decide) W).mono (fun e w' h => ⟨h.1, h.2.symm⟩)
  have d0 : decide (th < 0) = false := decide_eq_false (by omega)
  have d1 : decide (8 ≤ th) = false := decide_eq_false (by omega)
  have tm : wd.tmod 2 = wd % 2 := by rw [Int.tmod_eq_emod_of_nonneg w0]
  by_cases had : ad = 0
  · cases own with
    | true =>
      go_enter Tryd.func36, Tryd.ntmps36
      go_wp2_with (first | (go_at_call 49; refine (PR _).mono ?_; rintro ex w' ⟨rfl, rfl⟩) | (go_at_call 50; refine (SG _).mono ?_; rintro ex w' ⟨rfl, rfl⟩))
      go_ret
      exact FP.mk (by simp [formedE, inB, bareB, lastB, adB, wdB, erB, *])
    | false =>
      by_cases hev : wd % 2 = 0
      · by_cases her : er = 0
        · go_enter Tryd.func36, Tryd.ntmps36
          go_wp2_with (first | (go_at_call 49; refine (PR _).mono ?_; rintro ex w' ⟨rfl, rfl⟩) | (go_at_call 50; refine (SG _).mono ?_; rintro ex w' ⟨rfl, rfl⟩))
          go_ret
          exact FP.mk (by simp [formedE, inB, bareB, lastB, adB, wdB, erB, *])
        · go_enter Tryd.func36, Tryd.ntmps36
          go_wp2_with (first | (go_at_call 49; refine (PR _).mono ?_; rintro ex w' ⟨rfl, rfl⟩) | (go_at_call 50; refine (SG _).mono ?_; rintro ex w' ⟨rfl, rfl⟩))
          go_ret
          exact FP.mk (by simp [formedE, inB, bareB, lastB, adB, wdB, erB, *])
      · go_enter Tryd.func36, Tryd.ntmps36
        go_wp2_with (first | (go_at_call 49; refine (PR _).mono ?_; rintro ex w' ⟨rfl, rfl⟩) | (go_at_call 50; refine (SG _).mono ?_; rintro ex w' ⟨rfl, rfl⟩))
        go_ret
        exact FP.mk (by simp [formedE, inB, bareB, lastB, adB, wdB, erB, *])
  · go_enter Tryd.func36, Tryd.ntmps36
    go_wp2_with (first | (go_at_call 49; refine (PR _).mono ?_; rintro ex w' ⟨rfl, rfl⟩) | (go_at_call 50; refine (SG _).mono ?_; rintro ex w' ⟨rfl, rfl⟩))
    go_ret
    exact FP.mk (by simp [formedE, inB, bareB, lastB, adB, wdB, erB, *])
set_option maxRecDepth 100000 in
set_option maxHeartbeats 4000000 in
theorem rformed2 (th ad wd : Int) (own : Bool) (er : Int) (w : World) (t0 : 0 ≤ th) (t8 : th < 8) (_w0 : 0 ≤ wd) : Calls Tryd.prog 36 #[.agg #[.int .i64 th, .int .i64 2, .int .u64 ad, .int .u64 wd, .bool own, .int .i64 er]] w (FP th 2 ad wd own er w) := by
  have PR : ∀ W, Calls Tryd.prog 49 #[.int .i64 2] W fun e w' => e = .returned (.bool true) ∧ W = w' := fun W => (rpair_any 2 (by decide) (by decide) W).mono (fun e w' h => ⟨h.1, h.2.symm⟩)
  have d0 : decide (th < 0) = false := decide_eq_false (by omega)
  have d1 : decide (8 ≤ th) = false := decide_eq_false (by omega)
  by_cases her : er = 0
  · go_enter Tryd.func36, Tryd.ntmps36
    go_wp2_with (first | (go_at_call 49; refine (PR _).mono ?_; rintro ex w' ⟨rfl, rfl⟩))
    go_ret
    exact FP.mk (by simp [formedE, inB, bareB, lastB, adB, wdB, erB, *])
  · go_enter Tryd.func36, Tryd.ntmps36
    go_wp2_with (first | (go_at_call 49; refine (PR _).mono ?_; rintro ex w' ⟨rfl, rfl⟩))
    go_ret
    exact FP.mk (by simp [formedE, inB, bareB, lastB, adB, wdB, erB, *])
set_option maxRecDepth 100000 in
set_option maxHeartbeats 4000000 in
theorem rformed3 (th ad wd : Int) (own : Bool) (er : Int) (w : World) (t0 : 0 ≤ th) (t8 : th < 8) (_w0 : 0 ≤ wd) : Calls Tryd.prog 36 #[.agg #[.int .i64 th, .int .i64 3, .int .u64 ad, .int .u64 wd, .bool own, .int .i64 er]] w (FP th 3 ad wd own er w) := by
  have PR : ∀ W, Calls Tryd.prog 49 #[.int .i64 3] W fun e w' => e = .returned (.bool true) ∧ W = w' := fun W => (rpair_any 3 (by decide) (by decide) W).mono (fun e w' h => ⟨h.1, h.2.symm⟩)
  have d0 : decide (th < 0) = false := decide_eq_false (by omega)
  have d1 : decide (8 ≤ th) = false := decide_eq_false (by omega)
  cases own with
  | true =>
    go_enter Tryd.func36, Tryd.ntmps36
    go_wp2_with (first | (go_at_call 49; refine (PR _).mono ?_; rintro ex w' ⟨rfl, rfl⟩))
    go_ret
    exact FP.mk (by simp [formedE, inB, bareB, lastB, adB, wdB, erB, *])
  | false =>
    by_cases her : er = 0
    · go_enter Tryd.func36, Tryd.ntmps36
      go_wp2_with (first | (go_at_call 49; refine (PR _).mono ?_; rintro ex w' ⟨rfl, rfl⟩))
      go_ret
      exact FP.mk (by simp [formedE, inB, bareB, lastB, adB, wdB, erB, *])
    · go_enter Tryd.func36, Tryd.ntmps36
      go_wp2_with (first | (go_at_call 49; refine (PR _).mono ?_; rintro ex w' ⟨rfl, rfl⟩))
      go_ret
      exact FP.mk (by simp [formedE, inB, bareB, lastB, adB, wdB, erB, *])
set_option maxRecDepth 100000 in
set_option maxHeartbeats 4000000 in
theorem rformed4 (th ad wd : Int) (own : Bool) (er : Int) (w : World) (t0 : 0 ≤ th) (t8 : th < 8) (w0 : 0 ≤ wd) : Calls Tryd.prog 36 #[.agg #[.int .i64 th, .int .i64 4, .int .u64 ad, .int .u64 wd, .bool own, .int .i64 er]] w (FP th 4 ad wd own er w) := by
  have PR : ∀ W, Calls Tryd.prog 49 #[.int .i64 4] W fun e w' => e = .returned (.bool false) ∧ W = w' := fun W => (rpair_any 4 (by decide) (by decide) W).mono (fun e w' h => ⟨h.1, h.2.symm⟩)
  have SG : ∀ W, Calls Tryd.prog 50 #[.int .i64 4] W fun e w' => e = .returned (.bool true) ∧ W = w' := fun W => (rsingle_any 4 (by decide) (by decide) W).mono (fun e w' h => ⟨h.1, h.2.symm⟩)
  have d0 : decide (th < 0) = false := decide_eq_false (by omega)
  have d1 : decide (8 ≤ th) = false := decide_eq_false (by omega)
  have tm : wd.tmod 2 = wd % 2 := by rw [Int.tmod_eq_emod_of_nonneg w0]
  by_cases had : ad = 0
  · cases own with
    | true =>
      go_enter Tryd.func36, Tryd.ntmps36
      go_wp2_with (first | (go_at_call 49; refine (PR _).mono ?_; rintro ex w' ⟨rfl, rfl⟩) | (go_at_call 50; refine (SG _).mono ?_; rintro ex w' ⟨rfl, rfl⟩))
      go_ret
      exact FP.mk (by simp [formedE, inB, bareB, lastB, adB, wdB, erB, *])
    | false =>
      by_cases hev : wd % 2 = 0
      · by_cases her : er = 0
        · go_enter Tryd.func36, Tryd.ntmps36
          go_wp2_with (first | (go_at_call 49; refine (PR _).mono ?_; rintro ex w' ⟨rfl, rfl⟩) | (go_at_call 50; refine (SG _).mono ?_; rintro ex w' ⟨rfl, rfl⟩))
          go_ret
          exact FP.mk (by simp [formedE, inB, bareB, lastB, adB, wdB, erB, *])
        · go_enter Tryd.func36, Tryd.ntmps36
          go_wp2_with (first | (go_at_call 49; refine (PR _).mono ?_; rintro ex w' ⟨rfl, rfl⟩) | (go_at_call 50; refine (SG _).mono ?_; rintro ex w' ⟨rfl, rfl⟩))
          go_ret
          exact FP.mk (by simp [formedE, inB, bareB, lastB, adB, wdB, erB, *])
      · go_enter Tryd.func36, Tryd.ntmps36
        go_wp2_with (first | (go_at_call 49; refine (PR _).mono ?_; rintro ex w' ⟨rfl, rfl⟩) | (go_at_call 50; refine (SG _).mono ?_; rintro ex w' ⟨rfl, rfl⟩))
        go_ret
        exact FP.mk (by simp [formedE, inB, bareB, lastB, adB, wdB, erB, *])
  · go_enter Tryd.func36, Tryd.ntmps36
    go_wp2_with (first | (go_at_call 49; refine (PR _).mono ?_; rintro ex w' ⟨rfl, rfl⟩) | (go_at_call 50; refine (SG _).mono ?_; rintro ex w' ⟨rfl, rfl⟩))
    go_ret
    exact FP.mk (by simp [formedE, inB, bareB, lastB, adB, wdB, erB, *])
end Go.Proofs.YtjkileijkgbndaaDoor


/- Walks of the document's pair, single, Formed, turn (package parleyref13). No statement of the seat is proved here. -/
namespace Go.Proofs.YtjkileijkgbndaaDoor
open Go.RowKit Go.Shelf

set_option maxRecDepth 100000 in
set_option maxHeartbeats 4000000 in
theorem rformed5 (th ad wd : Int) (own : Bool) (er : Int) (w : World) (t0 : 0 ≤ th) (t8 : th < 8) (_w0 : 0 ≤ wd) : Calls Tryd.prog 36 #[.agg #[.int .i64 th, .int .i64 5, .int .u64 ad, .int .u64 wd, .bool own, .int .i64 er]] w (FP th 5 ad wd own er w) := by
  have PR : ∀ W, Calls Tryd.prog 49 #[.int .i64 5] W fun e w' => e = .returned (.bool false) ∧ W = w' := fun W => (rpair_any 5 (by decide) (by decide) W).mono (fun e w' h => ⟨h.1, h.2.symm⟩)
  have SG : ∀ W, Calls Tryd.prog 50 #[.int .i64 5] W fun e w' => e = .returned (.bool false) ∧ W = w' := fun W => (rsingle_any 5 (by decide) (by decide) W).mono (fun e w' h => ⟨h.1, h.2.symm⟩)
  have d0 : decide (th < 0) = false := decide_eq_false (by omega)
  have d1 : decide (8 ≤ th) = false := decide_eq_false (by omega)
  by_cases had : ad = 0
  · by_cases hwd : wd = 0
    · cases own with
      | true =>
        go_enter Tryd.func36, Tryd.ntmps36
        go_wp2_with (first | (go_at_call 49; refine (PR _).mono ?_; rintro ex w' ⟨rfl, rfl⟩) | (go_at_call 50; refine (SG _).mono ?_; rintro ex w' ⟨rfl, rfl⟩))
        go_ret
        exact FP.mk (by simp [formedE, inB, bareB, lastB, adB, wdB, erB, *])
      | false =>
        by_cases her : er = 0
        · go_enter Tryd.func36, Tryd.ntmps36
          go_wp2_with (first | (go_at_call 49; refine (PR _).mono ?_; rintro ex w' ⟨rfl, rfl⟩) | (go_at_call 50; refine (SG _).mono ?_; rintro ex w' ⟨rfl, rfl⟩))
          go_ret
          exact FP.mk (by simp [formedE, inB, bareB, lastB, adB, wdB, erB, *])
        · go_enter Tryd.func36, Tryd.ntmps36
          go_wp2_with (first | (go_at_call 49; refine (PR _).mono ?_; rintro ex w' ⟨rfl, rfl⟩) | (go_at_call 50; refine (SG _).mono ?_; rintro ex w' ⟨rfl, rfl⟩))
          go_ret
          exact FP.mk (by simp [formedE, inB, bareB, lastB, adB, wdB, erB, *])
    · go_enter Tryd.func36, Tryd.ntmps36
      go_wp2_with (first | (go_at_call 49; refine (PR _).mono ?_; rintro ex w' ⟨rfl, rfl⟩) | (go_at_call 50; refine (SG _).mono ?_; rintro ex w' ⟨rfl, rfl⟩))
      go_ret
      exact FP.mk (by simp [formedE, inB, bareB, lastB, adB, wdB, erB, *])
  · go_enter Tryd.func36, Tryd.ntmps36
    go_wp2_with (first | (go_at_call 49; refine (PR _).mono ?_; rintro ex w' ⟨rfl, rfl⟩) | (go_at_call 50; refine (SG _).mono ?_; rintro ex w' ⟨rfl, rfl⟩))
    go_ret
    exact FP.mk (by simp [formedE, inB, bareB, lastB, adB, wdB, erB, *])
set_option maxRecDepth 100000 in
set_option maxHeartbeats 4000000 in
theorem rformed6 (th ad wd : Int) (own : Bool) (er : Int) (w : World) (t0 : 0 ≤ th) (t8 : th < 8) (_w0 : 0 ≤ wd) : Calls Tryd.prog 36 #[.agg #[.int .i64 th, .int .i64 6, .int .u64 ad, .int .u64 wd, .bool own, .int .i64 er]] w (FP th 6 ad wd own er w) := by
  have PR : ∀ W, Calls Tryd.prog 49 #[.int .i64 6] W fun e w' => e = .returned (.bool false) ∧ W = w' := fun W => (rpair_any 6 (by decide) (by decide) W).mono (fun e w' h => ⟨h.1, h.2.symm⟩)
  have SG : ∀ W, Calls Tryd.prog 50 #[.int .i64 6] W fun e w' => e = .returned (.bool true) ∧ W = w' := fun W => (rsingle_any 6 (by decide) (by decide) W).mono (fun e w' h => ⟨h.1, h.2.symm⟩)
  have d0 : decide (th < 0) = false := decide_eq_false (by omega)
  have d1 : decide (8 ≤ th) = false := decide_eq_false (by omega)
  by_cases had : ad = 0
  · cases own with
    | true =>
      go_enter Tryd.func36, Tryd.ntmps36
      go_wp2_with (first | (go_at_call 49; refine (PR _).mono ?_; rintro ex w' ⟨rfl, rfl⟩) | (go_at_call 50; refine (SG _).mono ?_; rintro ex w' ⟨rfl, rfl⟩))
      go_ret
      exact FP.mk (by simp [formedE, inB, bareB, lastB, adB, wdB, erB, *])
    | false =>
      by_cases her : er = 0
      · go_enter Tryd.func36, Tryd.ntmps36
        go_wp2_with (first | (go_at_call 49; refine (PR _).mono ?_; rintro ex w' ⟨rfl, rfl⟩) | (go_at_call 50; refine (SG _).mono ?_; rintro ex w' ⟨rfl, rfl⟩))
        go_ret
        exact FP.mk (by simp [formedE, inB, bareB, lastB, adB, wdB, erB, *])
      · go_enter Tryd.func36, Tryd.ntmps36
        go_wp2_with (first | (go_at_call 49; refine (PR _).mono ?_; rintro ex w' ⟨rfl, rfl⟩) | (go_at_call 50; refine (SG _).mono ?_; rintro ex w' ⟨rfl, rfl⟩))
        go_ret
        exact FP.mk (by simp [formedE, inB, bareB, lastB, adB, wdB, erB, *])
  · go_enter Tryd.func36, Tryd.ntmps36
    go_wp2_with (first | (go_at_call 49; refine (PR _).mono ?_; rintro ex w' ⟨rfl, rfl⟩) | (go_at_call 50; refine (SG _).mono ?_; rintro ex w' ⟨rfl, rfl⟩))
    go_ret
    exact FP.mk (by simp [formedE, inB, bareB, lastB, adB, wdB, erB, *])
set_option maxRecDepth 100000 in
set_option maxHeartbeats 4000000 in
theorem rformed7 (th ad wd : Int) (own : Bool) (er : Int) (w : World) (t0 : 0 ≤ th) (t8 : th < 8) (_w0 : 0 ≤ wd) : Calls Tryd.prog 36 #[.agg #[.int .i64 th, .int .i64 7, .int .u64 ad, .int .u64 wd, .bool own, .int .i64 er]] w (FP th 7 ad wd own er w) := by
  have PR : ∀ W, Calls Tryd.prog 49 #[.int .i64 7] W fun e w' => e = .returned (.bool false) ∧ W = w' := fun W => (rpair_any 7 (by decide) (by decide) W).mono (fun e w' h => ⟨h.1, h.2.symm⟩)
  have SG : ∀ W, Calls Tryd.prog 50 #[.int .i64 7] W fun e w' => e = .returned (.bool false) ∧ W = w' := fun W => (rsingle_any 7 (by decide) (by decide) W).mono (fun e w' h => ⟨h.1, h.2.symm⟩)
  have d0 : decide (th < 0) = false := decide_eq_false (by omega)
  have d1 : decide (8 ≤ th) = false := decide_eq_false (by omega)
  by_cases had : ad = 0
  · by_cases hwd : wd = 0
    · cases own with
      | true =>
        go_enter Tryd.func36, Tryd.ntmps36
        go_wp2_with (first | (go_at_call 49; refine (PR _).mono ?_; rintro ex w' ⟨rfl, rfl⟩) | (go_at_call 50; refine (SG _).mono ?_; rintro ex w' ⟨rfl, rfl⟩))
        go_ret
        exact FP.mk (by simp [formedE, inB, bareB, lastB, adB, wdB, erB, *])
      | false =>
        by_cases her : er = 0
        · go_enter Tryd.func36, Tryd.ntmps36
          go_wp2_with (first | (go_at_call 49; refine (PR _).mono ?_; rintro ex w' ⟨rfl, rfl⟩) | (go_at_call 50; refine (SG _).mono ?_; rintro ex w' ⟨rfl, rfl⟩))
          go_ret
          exact FP.mk (by simp [formedE, inB, bareB, lastB, adB, wdB, erB, *])
        · go_enter Tryd.func36, Tryd.ntmps36
          go_wp2_with (first | (go_at_call 49; refine (PR _).mono ?_; rintro ex w' ⟨rfl, rfl⟩) | (go_at_call 50; refine (SG _).mono ?_; rintro ex w' ⟨rfl, rfl⟩))
          go_ret
          exact FP.mk (by simp [formedE, inB, bareB, lastB, adB, wdB, erB, *])
    · go_enter Tryd.func36, Tryd.ntmps36
      go_wp2_with (first | (go_at_call 49; refine (PR _).mono ?_; rintro ex w' ⟨rfl, rfl⟩) | (go_at_call 50; refine (SG _).mono ?_; rintro ex w' ⟨rfl, rfl⟩))
      go_ret
      exact FP.mk (by simp [formedE, inB, bareB, lastB, adB, wdB, erB, *])
  · go_enter Tryd.func36, Tryd.ntmps36
    go_wp2_with (first | (go_at_call 49; refine (PR _).mono ?_; rintro ex w' ⟨rfl, rfl⟩) | (go_at_call 50; refine (SG _).mono ?_; rintro ex w' ⟨rfl, rfl⟩))
    go_ret
    exact FP.mk (by simp [formedE, inB, bareB, lastB, adB, wdB, erB, *])
set_option maxRecDepth 100000 in
set_option maxHeartbeats 4000000 in
theorem rformed8 (th ad wd : Int) (own : Bool) (er : Int) (w : World) (t0 : 0 ≤ th) (t8 : th < 8) (_w0 : 0 ≤ wd) : Calls Tryd.prog 36 #[.agg #[.int .i64 th, .int .i64 8, .int .u64 ad, .int .u64 wd, .bool own, .int .i64 er]] w (FP th 8 ad wd own er w) := by
  have PR : ∀ W, Calls Tryd.prog 49 #[.int .i64 8] W fun e w' => e = .returned (.bool false) ∧ W = w' := fun W => (rpair_any 8 (by decide) (by decide) W).mono (fun e w' h => ⟨h.1, h.2.symm⟩)
  have SG : ∀ W, Calls Tryd.prog 50 #[.int .i64 8] W fun e w' => e = .returned (.bool false) ∧ W = w' := fun W => (rsingle_any 8 (by decide) (by decide) W).mono (fun e w' h => ⟨h.1, h.2.symm⟩)
  have d0 : decide (th < 0) = false := decide_eq_false (by omega)
  have d1 : decide (8 ≤ th) = false := decide_eq_false (by omega)
  by_cases had : ad = 0
  · by_cases hwd : wd = 0
    · cases own with
      | true =>
        go_enter Tryd.func36, Tryd.ntmps36
        go_wp2_with (first | (go_at_call 49; refine (PR _).mono ?_; rintro ex w' ⟨rfl, rfl⟩) | (go_at_call 50; refine (SG _).mono ?_; rintro ex w' ⟨rfl, rfl⟩))
        go_ret
        exact FP.mk (by simp [formedE, inB, bareB, lastB, adB, wdB, erB, *])
      | false =>
        by_cases her : er = 0
        · go_enter Tryd.func36, Tryd.ntmps36
          go_wp2_with (first | (go_at_call 49; refine (PR _).mono ?_; rintro ex w' ⟨rfl, rfl⟩) | (go_at_call 50; refine (SG _).mono ?_; rintro ex w' ⟨rfl, rfl⟩))
          go_ret
          exact FP.mk (by simp [formedE, inB, bareB, lastB, adB, wdB, erB, *])
        · go_enter Tryd.func36, Tryd.ntmps36
          go_wp2_with (first | (go_at_call 49; refine (PR _).mono ?_; rintro ex w' ⟨rfl, rfl⟩) | (go_at_call 50; refine (SG _).mono ?_; rintro ex w' ⟨rfl, rfl⟩))
          go_ret
          exact FP.mk (by simp [formedE, inB, bareB, lastB, adB, wdB, erB, *])
    · go_enter Tryd.func36, Tryd.ntmps36
      go_wp2_with (first | (go_at_call 49; refine (PR _).mono ?_; rintro ex w' ⟨rfl, rfl⟩) | (go_at_call 50; refine (SG _).mono ?_; rintro ex w' ⟨rfl, rfl⟩))
      go_ret
      exact FP.mk (by simp [formedE, inB, bareB, lastB, adB, wdB, erB, *])
  · go_enter Tryd.func36, Tryd.ntmps36
    go_wp2_with (first | (go_at_call 49; refine (PR _).mono ?_; rintro ex w' ⟨rfl, rfl⟩) | (go_at_call 50; refine (SG _).mono ?_; rintro ex w' ⟨rfl, rfl⟩))
    go_ret
    exact FP.mk (by simp [formedE, inB, bareB, lastB, adB, wdB, erB, *])
end Go.Proofs.YtjkileijkgbndaaDoor


/- Walks of the document's pair, single, Formed, turn (package parleyref13). No statement of the seat is proved here. -/
namespace Go.Proofs.YtjkileijkgbndaaDoor
open Go.RowKit Go.Shelf

set_option maxRecDepth 100000 in
set_option maxHeartbeats 4000000 in
theorem rformed9 (th ad wd : Int) (own : Bool) (er : Int) (w : World) (t0 : 0 ≤ th) (t8 : th < 8) (_w0 : 0 ≤ wd) : Calls Tryd.prog 36 #[.agg #[.int .i64 th, .int .i64 9, .int .u64 ad, .int .u64 wd, .bool own, .int .i64 er]] w (FP th 9 ad wd own er w) := by
  have PR : ∀ W, Calls Tryd.prog 49 #[.int .i64 9] W fun e w' => e = .returned (.bool false) ∧ W = w' := fun W => (rpair_any 9 (by decide) (by decide) W).mono (fun e w' h => ⟨h.1, h.2.symm⟩)
  have SG : ∀ W, Calls Tryd.prog 50 #[.int .i64 9] W fun e w' => e = .returned (.bool false) ∧ W = w' := fun W => (rsingle_any 9 (by decide) (by decide) W).mono (fun e w' h => ⟨h.1, h.2.symm⟩)
  have d0 : decide (th < 0) = false := decide_eq_false (by omega)
  have d1 : decide (8 ≤ th) = false := decide_eq_false (by omega)
  by_cases had : ad = 0
  · by_cases hwd : wd = 0
    · cases own with
      | true =>
        go_enter Tryd.func36, Tryd.ntmps36
        go_wp2_with (first | (go_at_call 49; refine (PR _).mono ?_; rintro ex w' ⟨rfl, rfl⟩) | (go_at_call 50; refine (SG _).mono ?_; rintro ex w' ⟨rfl, rfl⟩))
        go_ret
        exact FP.mk (by simp [formedE, inB, bareB, lastB, adB, wdB, erB, *])
      | false =>
        by_cases h4 : er = 4
        · go_enter Tryd.func36, Tryd.ntmps36
          go_wp2_with (first | (go_at_call 49; refine (PR _).mono ?_; rintro ex w' ⟨rfl, rfl⟩) | (go_at_call 50; refine (SG _).mono ?_; rintro ex w' ⟨rfl, rfl⟩))
          go_ret
          exact FP.mk (by simp [formedE, inB, bareB, lastB, adB, wdB, erB, *])
        · by_cases h5 : er = 5
          · go_enter Tryd.func36, Tryd.ntmps36
            go_wp2_with (first | (go_at_call 49; refine (PR _).mono ?_; rintro ex w' ⟨rfl, rfl⟩) | (go_at_call 50; refine (SG _).mono ?_; rintro ex w' ⟨rfl, rfl⟩))
            go_ret
            exact FP.mk (by simp [formedE, inB, bareB, lastB, adB, wdB, erB, *])
          · by_cases h6 : er = 6
            · go_enter Tryd.func36, Tryd.ntmps36
              go_wp2_with (first | (go_at_call 49; refine (PR _).mono ?_; rintro ex w' ⟨rfl, rfl⟩) | (go_at_call 50; refine (SG _).mono ?_; rintro ex w' ⟨rfl, rfl⟩))
              go_ret
              exact FP.mk (by simp [formedE, inB, bareB, lastB, adB, wdB, erB, *])
            · go_enter Tryd.func36, Tryd.ntmps36
              go_wp2_with (first | (go_at_call 49; refine (PR _).mono ?_; rintro ex w' ⟨rfl, rfl⟩) | (go_at_call 50; refine (SG _).mono ?_; rintro ex w' ⟨rfl, rfl⟩))
              go_ret
              exact FP.mk (by simp [formedE, inB, bareB, lastB, adB, wdB, erB, *])
    · go_enter Tryd.func36, Tryd.ntmps36
      go_wp2_with (first | (go_at_call 49; refine (PR _).mono ?_; rintro ex w' ⟨rfl, rfl⟩) | (go_at_call 50; refine (SG _).mono ?_; rintro ex w' ⟨rfl, rfl⟩))
      go_ret
      exact FP.mk (by simp [formedE, inB, bareB, lastB, adB, wdB, erB, *])
  · go_enter Tryd.func36, Tryd.ntmps36
    go_wp2_with (first | (go_at_call 49; refine (PR _).mono ?_; rintro ex w' ⟨rfl, rfl⟩) | (go_at_call 50; refine (SG _).mono ?_; rintro ex w' ⟨rfl, rfl⟩))
    go_ret
    exact FP.mk (by simp [formedE, inB, bareB, lastB, adB, wdB, erB, *])
set_option maxRecDepth 100000 in
set_option maxHeartbeats 4000000 in
theorem rformed10 (th ad wd : Int) (own : Bool) (er : Int) (w : World) (t0 : 0 ≤ th) (t8 : th < 8) (_w0 : 0 ≤ wd) : Calls Tryd.prog 36 #[.agg #[.int .i64 th, .int .i64 10, .int .u64 ad, .int .u64 wd, .bool own, .int .i64 er]] w (FP th 10 ad wd own er w) := by
  have PR : ∀ W, Calls Tryd.prog 49 #[.int .i64 10] W fun e w' => e = .returned (.bool true) ∧ W = w' := fun W => (rpair_any 10 (by decide) (by decide) W).mono (fun e w' h => ⟨h.1, h.2.symm⟩)
  have d0 : decide (th < 0) = false := decide_eq_false (by omega)
  have d1 : decide (8 ≤ th) = false := decide_eq_false (by omega)
  cases own with
  | true =>
    go_enter Tryd.func36, Tryd.ntmps36
    go_wp2_with (first | (go_at_call 49; refine (PR _).mono ?_; rintro ex w' ⟨rfl, rfl⟩))
    go_ret
    exact FP.mk (by simp [formedE, inB, bareB, lastB, adB, wdB, erB, *])
  | false =>
    by_cases her : er = 0
    · go_enter Tryd.func36, Tryd.ntmps36
      go_wp2_with (first | (go_at_call 49; refine (PR _).mono ?_; rintro ex w' ⟨rfl, rfl⟩))
      go_ret
      exact FP.mk (by simp [formedE, inB, bareB, lastB, adB, wdB, erB, *])
    · go_enter Tryd.func36, Tryd.ntmps36
      go_wp2_with (first | (go_at_call 49; refine (PR _).mono ?_; rintro ex w' ⟨rfl, rfl⟩))
      go_ret
      exact FP.mk (by simp [formedE, inB, bareB, lastB, adB, wdB, erB, *])
set_option maxRecDepth 100000 in
set_option maxHeartbeats 4000000 in
theorem rformed11 (th ad wd : Int) (own : Bool) (er : Int) (w : World) (t0 : 0 ≤ th) (t8 : th < 8) (_w0 : 0 ≤ wd) : Calls Tryd.prog 36 #[.agg #[.int .i64 th, .int .i64 11, .int .u64 ad, .int .u64 wd, .bool own, .int .i64 er]] w (FP th 11 ad wd own er w) := by
  have PR : ∀ W, Calls Tryd.prog 49 #[.int .i64 11] W fun e w' => e = .returned (.bool true) ∧ W = w' := fun W => (rpair_any 11 (by decide) (by decide) W).mono (fun e w' h => ⟨h.1, h.2.symm⟩)
  have d0 : decide (th < 0) = false := decide_eq_false (by omega)
  have d1 : decide (8 ≤ th) = false := decide_eq_false (by omega)
  cases own with
  | true =>
    go_enter Tryd.func36, Tryd.ntmps36
    go_wp2_with (first | (go_at_call 49; refine (PR _).mono ?_; rintro ex w' ⟨rfl, rfl⟩))
    go_ret
    exact FP.mk (by simp [formedE, inB, bareB, lastB, adB, wdB, erB, *])
  | false =>
    by_cases her : er = 0
    · go_enter Tryd.func36, Tryd.ntmps36
      go_wp2_with (first | (go_at_call 49; refine (PR _).mono ?_; rintro ex w' ⟨rfl, rfl⟩))
      go_ret
      exact FP.mk (by simp [formedE, inB, bareB, lastB, adB, wdB, erB, *])
    · go_enter Tryd.func36, Tryd.ntmps36
      go_wp2_with (first | (go_at_call 49; refine (PR _).mono ?_; rintro ex w' ⟨rfl, rfl⟩))
      go_ret
      exact FP.mk (by simp [formedE, inB, bareB, lastB, adB, wdB, erB, *])
set_option maxRecDepth 100000 in
set_option maxHeartbeats 4000000 in
theorem rformed12 (th ad wd : Int) (own : Bool) (er : Int) (w : World) (t0 : 0 ≤ th) (t8 : th < 8) (_w0 : 0 ≤ wd) : Calls Tryd.prog 36 #[.agg #[.int .i64 th, .int .i64 12, .int .u64 ad, .int .u64 wd, .bool own, .int .i64 er]] w (FP th 12 ad wd own er w) := by
  have PR : ∀ W, Calls Tryd.prog 49 #[.int .i64 12] W fun e w' => e = .returned (.bool false) ∧ W = w' := fun W => (rpair_any 12 (by decide) (by decide) W).mono (fun e w' h => ⟨h.1, h.2.symm⟩)
  have SG : ∀ W, Calls Tryd.prog 50 #[.int .i64 12] W fun e w' => e = .returned (.bool false) ∧ W = w' := fun W => (rsingle_any 12 (by decide) (by decide) W).mono (fun e w' h => ⟨h.1, h.2.symm⟩)
  have d0 : decide (th < 0) = false := decide_eq_false (by omega)
  have d1 : decide (8 ≤ th) = false := decide_eq_false (by omega)
  by_cases had : ad = 0
  · by_cases hwd : wd = 0
    · cases own with
      | true =>
        go_enter Tryd.func36, Tryd.ntmps36
        go_wp2_with (first | (go_at_call 49; refine (PR _).mono ?_; rintro ex w' ⟨rfl, rfl⟩) | (go_at_call 50; refine (SG _).mono ?_; rintro ex w' ⟨rfl, rfl⟩))
        go_ret
        exact FP.mk (by simp [formedE, inB, bareB, lastB, adB, wdB, erB, *])
      | false =>
        by_cases her : er = 0
        · go_enter Tryd.func36, Tryd.ntmps36
          go_wp2_with (first | (go_at_call 49; refine (PR _).mono ?_; rintro ex w' ⟨rfl, rfl⟩) | (go_at_call 50; refine (SG _).mono ?_; rintro ex w' ⟨rfl, rfl⟩))
          go_ret
          exact FP.mk (by simp [formedE, inB, bareB, lastB, adB, wdB, erB, *])
        · go_enter Tryd.func36, Tryd.ntmps36
          go_wp2_with (first | (go_at_call 49; refine (PR _).mono ?_; rintro ex w' ⟨rfl, rfl⟩) | (go_at_call 50; refine (SG _).mono ?_; rintro ex w' ⟨rfl, rfl⟩))
          go_ret
          exact FP.mk (by simp [formedE, inB, bareB, lastB, adB, wdB, erB, *])
    · go_enter Tryd.func36, Tryd.ntmps36
      go_wp2_with (first | (go_at_call 49; refine (PR _).mono ?_; rintro ex w' ⟨rfl, rfl⟩) | (go_at_call 50; refine (SG _).mono ?_; rintro ex w' ⟨rfl, rfl⟩))
      go_ret
      exact FP.mk (by simp [formedE, inB, bareB, lastB, adB, wdB, erB, *])
  · go_enter Tryd.func36, Tryd.ntmps36
    go_wp2_with (first | (go_at_call 49; refine (PR _).mono ?_; rintro ex w' ⟨rfl, rfl⟩) | (go_at_call 50; refine (SG _).mono ?_; rintro ex w' ⟨rfl, rfl⟩))
    go_ret
    exact FP.mk (by simp [formedE, inB, bareB, lastB, adB, wdB, erB, *])
end Go.Proofs.YtjkileijkgbndaaDoor


/- A walk of the document's Formed (package parleyref13). No statement of the seat is proved here. -/
namespace Go.Proofs.YtjkileijkgbndaaDoor
open Go.RowKit Go.Shelf

set_option maxRecDepth 100000 in
set_option maxHeartbeats 4000000 in
theorem rformed_out (th kd ad wd : Int) (own : Bool) (er : Int) (w : World) (h : th < 0 ∨ 8 ≤ th ∨ kd < 1 ∨ 12 < kd) : Calls Tryd.prog 36 #[.agg #[.int .i64 th, .int .i64 kd, .int .u64 ad, .int .u64 wd, .bool own, .int .i64 er]] w (FP th kd ad wd own er w) := by
  have hfe : formedE ⟨th, kd, ad, wd, own, er⟩ = false := by
    unfold formedE inB
    rcases h with h | h | h | h
    · simp [show ¬ 0 ≤ th by omega]
    · simp [show ¬ th < 8 by omega]
    · simp [show ¬ 1 ≤ kd by omega]
    · simp [show ¬ kd ≤ 12 by omega]
  by_cases a1 : th < 0
  · go_enter Tryd.func36, Tryd.ntmps36
    go_wp2_with fail
    go_ret
    exact FP.mk hfe
  · by_cases a2 : 8 ≤ th
    · go_enter Tryd.func36, Tryd.ntmps36
      go_wp2_with fail
      go_ret
      exact FP.mk hfe
    · by_cases a3 : kd < 1
      · go_enter Tryd.func36, Tryd.ntmps36
        go_wp2_with fail
        go_ret
        exact FP.mk hfe
      · have a4 : 12 < kd := by omega
        go_enter Tryd.func36, Tryd.ntmps36
        go_wp2_with fail
        go_ret
        exact FP.mk hfe
theorem rformed_any (e : Ev) (hwf : e.wf) (w : World) : Calls Tryd.prog 36 #[.agg e.cells] w fun ex w' => ex = .returned (.bool (formedE e)) ∧ Keeps (fun _ => False) w w' := by
  obtain ⟨th, kd, ad, wd, own, er⟩ := e
  obtain ⟨-, -, -, ⟨w0, -⟩, -⟩ := hwf
  dsimp only at w0
  by_cases h : th < 0 ∨ 8 ≤ th ∨ kd < 1 ∨ 12 < kd
  · exact rformed_out th kd ad wd own er w h
  · have t0 : 0 ≤ th := by omega
    have t8 : th < 8 := by omega
    rcases kd12 (k := kd) (by omega) (by omega) with rfl | rfl | rfl | rfl | rfl | rfl | rfl | rfl | rfl | rfl | rfl | rfl
    · exact rformed1 th ad wd own er w t0 t8 w0
    · exact rformed2 th ad wd own er w t0 t8 w0
    · exact rformed3 th ad wd own er w t0 t8 w0
    · exact rformed4 th ad wd own er w t0 t8 w0
    · exact rformed5 th ad wd own er w t0 t8 w0
    · exact rformed6 th ad wd own er w t0 t8 w0
    · exact rformed7 th ad wd own er w t0 t8 w0
    · exact rformed8 th ad wd own er w t0 t8 w0
    · exact rformed9 th ad wd own er w t0 t8 w0
    · exact rformed10 th ad wd own er w t0 t8 w0
    · exact rformed11 th ad wd own er w t0 t8 w0
    · exact rformed12 th ad wd own er w t0 t8 w0
end Go.Proofs.YtjkileijkgbndaaDoor
