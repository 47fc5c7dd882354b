
/- Walks of cmp's functions, rank, over, and the order's closure (package witness). No statement of the seat is proved here. -/
import Derived.Test.YtjkileijkgbndaaDoorWiD
import Derived.Deep.RegionHeld3
import Derived.Sort.Grow
namespace Go.Proofs.YtjkileijkgbndaaDoor
open Go.RowKit Go.Shelf

def cmpI (x y : Int) : Int := if x < y then -1 else if y < x then 1 else 0
set_option maxRecDepth 100000 in
set_option maxHeartbeats 2000000 in
theorem cmpU_any (x y : Int) (w : World) : Calls Tryd.prog 32 #[.int .u64 x, .int .u64 y] w fun e w' => e = .returned (.int .i64 (cmpI x y)) ∧ w' = w := by
  unfold cmpI
  by_cases h1 : x < y
  · rw [if_pos h1]
    go_enter Tryd.func32, Tryd.ntmps32
    go_wp2
    go_ret
    exact ⟨rfl, rfl⟩
  · rw [if_neg h1]
    by_cases h2 : y < x
    · rw [if_pos h2]
      have h3 : x > y := h2
      go_enter Tryd.func32, Tryd.ntmps32
      go_wp2
      go_ret
      exact ⟨rfl, rfl⟩
    · rw [if_neg h2]
      have h3 : ¬ x > y := h2
      go_enter Tryd.func32, Tryd.ntmps32
      go_wp2
      go_ret
      exact ⟨rfl, rfl⟩
set_option maxRecDepth 100000 in
set_option maxHeartbeats 2000000 in
theorem cmpN_any (x y : Int) (w : World) : Calls Tryd.prog 33 #[.int .i64 x, .int .i64 y] w fun e w' => e = .returned (.int .i64 (cmpI x y)) ∧ w' = w := by
  unfold cmpI
  by_cases h1 : x < y
  · rw [if_pos h1]
    go_enter Tryd.func33, Tryd.ntmps33
    go_wp2
    go_ret
    exact ⟨rfl, rfl⟩
  · rw [if_neg h1]
    by_cases h2 : y < x
    · rw [if_pos h2]
      have h3 : x > y := h2
      go_enter Tryd.func33, Tryd.ntmps33
      go_wp2
      go_ret
      exact ⟨rfl, rfl⟩
    · rw [if_neg h2]
      have h3 : ¬ x > y := h2
      go_enter Tryd.func33, Tryd.ntmps33
      go_wp2
      go_ret
      exact ⟨rfl, rfl⟩
def orI (a b c : Int) : Int := if a = 0 then (if b = 0 then c else b) else a
set_option maxRecDepth 100000 in
set_option maxHeartbeats 2000000 in
theorem or_any (g : Nat) (a b c : Int) (w : World) (c0 : w.cell? ⟨g, 0, none⟩ = some (.int .i64 a)) (c1 : w.cell? ⟨g, 1, none⟩ = some (.int .i64 b)) (c2 : w.cell? ⟨g, 2, none⟩ = some (.int .i64 c)) :
    Calls Tryd.prog 31 #[.slice (some ⟨g, 0, none⟩) 3 3] w fun e w' => e = .returned (.int .i64 (orI a b c)) ∧ w' = w := by
  unfold orI
  by_cases ha : a = 0
  · rw [if_pos ha]
    subst ha
    by_cases hb : b = 0
    · rw [if_pos hb]
      subst hb
      by_cases hc : c = 0
      · subst hc
        go_enter Tryd.func31, Tryd.ntmps31
        go_wp2
        refine wp_loop_rounds 4 ?_
        rw [rounds_succ]
        go_wp2
        rw [rounds_succ]
        go_wp2
        rw [rounds_succ]
        go_wp2
        rw [rounds_succ]
        go_wp2
        go_ret
        exact ⟨rfl, rfl⟩
      · go_enter Tryd.func31, Tryd.ntmps31
        go_wp2
        refine wp_loop_rounds 3 ?_
        rw [rounds_succ]
        go_wp2
        rw [rounds_succ]
        go_wp2
        rw [rounds_succ]
        go_wp2
        go_ret
        exact ⟨rfl, rfl⟩
    · rw [if_neg hb]
      go_enter Tryd.func31, Tryd.ntmps31
      go_wp2
      refine wp_loop_rounds 2 ?_
      rw [rounds_succ]
      go_wp2
      rw [rounds_succ]
      go_wp2
      go_ret
      exact ⟨rfl, rfl⟩
  · rw [if_neg ha]
    go_enter Tryd.func31, Tryd.ntmps31
    go_wp2
    refine wp_loop_rounds 1 ?_
    rw [rounds_succ]
    go_wp2
    go_ret
    exact ⟨rfl, rfl⟩
set_option maxRecDepth 100000 in
set_option maxHeartbeats 2000000 in
theorem rank_any (g o : Nat) (p : Pt) (w : World) (c5 : w.cell? ⟨g, o + 5, none⟩ = some (.bool p.wr)) : Calls Tryd.prog 34 #[.pointer (some ⟨g, o, none⟩)] w fun e w' => e = .returned (.int .i64 (rankP p)) ∧ w' = w := by
  unfold rankP
  cases hb : p.wr <;> rw [hb] at c5
  all_goals
    go_enter Tryd.func34, Tryd.ntmps34
    go_wp2
    go_ret
    exact ⟨rfl, rfl⟩
set_option maxRecDepth 100000 in
set_option maxHeartbeats 2000000 in
theorem over_any (g o : Nat) (p : Pt) (w : World) (c1 : w.cell? ⟨g, o + 1, none⟩ = some (.int .i64 p.kd)) : Calls Tryd.prog 28 #[.pointer (some ⟨g, o, none⟩)] w fun e w' => e = .returned (.bool (overB p)) ∧ w' = w := by
  unfold overB
  generalize p.kd = kd at *
  by_cases h1 : kd = 1
  · subst h1
    go_enter Tryd.func28, Tryd.ntmps28
    go_wp2
    go_ret
    exact ⟨rfl, rfl⟩
  · by_cases h2 : kd = 2
    · subst h2
      go_enter Tryd.func28, Tryd.ntmps28
      go_wp2
      go_ret
      exact ⟨rfl, rfl⟩
    · by_cases h3 : kd = 3
      · subst h3
        go_enter Tryd.func28, Tryd.ntmps28
        go_wp2
        go_ret
        exact ⟨rfl, rfl⟩
      · go_enter Tryd.func28, Tryd.ntmps28
        go_wp2
        go_ret
        exact ⟨by simp [h1, h2, h3], rfl⟩
/-- How the closure compares. -/
def cfP (a b : Pt) : Int := orI (cmpI a.nu b.nu) (cmpI (rankP a) (rankP b)) (cmpI a.si b.si)
theorem cfP_lt (a b : Pt) : decide (cfP a b < 0) = befB a b := by
  rw [Bool.eq_iff_iff, bef_iff, decide_eq_true_eq]
  unfold cfP orI cmpI
  (repeat' split) <;> omega
set_option maxRecDepth 100000 in
set_option maxHeartbeats 4000000 in
theorem closure_any (B rb g N cap a b : Nat) (pa pb : Pt) (w : World) (ha : a < N) (hb : b < N) (cB : w.cell? ⟨B, 0, none⟩ = some (.pointer (some ⟨rb, 0, none⟩))) (cr : w.cell? ⟨rb, 0, none⟩ = some (.slice (some ⟨g, 0, none⟩) N cap))
    (a4 : w.cell? ⟨g, a * 11 + 4, none⟩ = some (.int .u64 pa.nu)) (a5 : w.cell? ⟨g, a * 11 + 5, none⟩ = some (.bool pa.wr)) (a9 : w.cell? ⟨g, a * 11 + 9, none⟩ = some (.int .i64 pa.si))
    (b4 : w.cell? ⟨g, b * 11 + 4, none⟩ = some (.int .u64 pb.nu)) (b5 : w.cell? ⟨g, b * 11 + 5, none⟩ = some (.bool pb.wr)) (b9 : w.cell? ⟨g, b * 11 + 9, none⟩ = some (.int .i64 pb.si)) :
    Calls Tryd.prog 30 #[.int .i64 (a : Int), .int .i64 (b : Int), .pointer (some ⟨B, 0, none⟩)] w fun e w' => e = .returned (.int .i64 (cfP pa pb)) ∧ ∃ q os, w' = Go.Sort.grow (w.drewN q) os := by
  have ha' : (a : Int) < N := by omega
  have hb' : (b : Int) < N := by omega
  have ha0 : (0 : Int) ≤ a := by omega
  have hb0 : (0 : Int) ≤ b := by omega
  have S1 : w.cell? ⟨B, 0, none⟩ = some (.pointer (some ⟨rb, 0, none⟩)) ∧ w.cell? ⟨rb, 0, none⟩ = some (.slice (some ⟨g, 0, none⟩) N cap) := ⟨cB, cr⟩
  go_enter Tryd.func30, Tryd.ntmps30
  go_wp2_with fail
  go_region_held3 (fun W : World => W.cell? ⟨B, 0, none⟩ = some (.pointer (some ⟨rb, 0, none⟩)) ∧ W.cell? ⟨rb, 0, none⟩ = some (.slice (some ⟨g, 0, none⟩) N cap)) (first | assumption | (exact S1) | go_keep) (fail)
  go_wp2_with fail
  clear S1 cB cr ha hb ha' hb' ha0 hb0
  generalize a * 11 = oa at *
  generalize b * 11 = ob at *
  have S2 : w.cell? ⟨g, oa + 4, none⟩ = some (.int .u64 pa.nu) ∧ w.cell? ⟨g, oa + 5, none⟩ = some (.bool pa.wr) ∧ w.cell? ⟨g, oa + 9, none⟩ = some (.int .i64 pa.si) ∧ w.cell? ⟨g, ob + 4, none⟩ = some (.int .u64 pb.nu) ∧ w.cell? ⟨g, ob + 5, none⟩ = some (.bool pb.wr) ∧ w.cell? ⟨g, ob + 9, none⟩ = some (.int .i64 pb.si) := ⟨a4, a5, a9, b4, b5, b9⟩
  go_region_held3 (fun W : World => W.cell? ⟨g, oa + 4, none⟩ = some (.int .u64 pa.nu) ∧ W.cell? ⟨g, oa + 5, none⟩ = some (.bool pa.wr) ∧ W.cell? ⟨g, oa + 9, none⟩ = some (.int .i64 pa.si) ∧ W.cell? ⟨g, ob + 4, none⟩ = some (.int .u64 pb.nu) ∧ W.cell? ⟨g, ob + 5, none⟩ = some (.bool pb.wr) ∧ W.cell? ⟨g, ob + 9, none⟩ = some (.int .i64 pb.si)) (first | assumption | (exact S2) | go_keep) (first
    | (go_at_call 32; refine (cmpU_any _ _ _).mono ?_; rintro e w' ⟨rfl, rfl⟩)
    | (go_at_call 33; refine (cmpN_any _ _ _).mono ?_; rintro e w' ⟨rfl, rfl⟩)
    | (go_at_call 34; first | (refine (rank_any g (oa) pa _ (by assumption)).mono ?_; rintro e w' ⟨rfl, rfl⟩) | (refine (rank_any g (ob) pb _ (by assumption)).mono ?_; rintro e w' ⟨rfl, rfl⟩))
    | (go_at_call 31; refine (or_any _ (cmpI pa.nu pb.nu) (cmpI (rankP pa) (rankP pb)) (cmpI pa.si pb.si) _ (by simp) (by simp) (by simp)).mono ?_; rintro e w' ⟨rfl, rfl⟩))
  go_wp2_with fail
  go_ret
  exact ⟨rfl, 2, _, Go.Sort.alloc_eq_grow (w.drewN 2) _⟩
end Go.Proofs.YtjkileijkgbndaaDoor
