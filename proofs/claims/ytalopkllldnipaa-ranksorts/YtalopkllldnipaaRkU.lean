
/- The walks of compare and ahead (layer 24). No statement of the seat is proved here. -/
import Derived.Test.YtalopkllldnipaaRkT
import Derived.Sort.OwnSortedInts
namespace Go.Proofs.Ytalopkllldnipaa
open Go.RowKit

def cmpI (x y : Int) : Int := if x < y then -1 else if y < x then 1 else 0
set_option maxRecDepth 100000 in
set_option maxHeartbeats 2000000 in
theorem cmpU_any (x y : Int) (w : World) : Calls Try.prog 74 #[.int .u64 x, .int .u64 y] w fun e w' => e = .returned (.int .i64 (cmpI x y)) ∧ w' = w := by
  unfold cmpI
  by_cases h1 : x < y
  · rw [if_pos h1]
    go_enter Try.func74, Try.ntmps74
    go_wp2
    go_ret
    exact ⟨rfl, rfl⟩
  · rw [if_neg h1]
    by_cases h2 : y < x
    · rw [if_pos h2]
      have h3 : x > y := h2
      go_enter Try.func74, Try.ntmps74
      go_wp2
      go_ret
      exact ⟨rfl, rfl⟩
    · rw [if_neg h2]
      have h3 : ¬ x > y := h2
      go_enter Try.func74, Try.ntmps74
      go_wp2
      go_ret
      exact ⟨rfl, rfl⟩
def orI (a b : Int) : Int := if a = 0 then b else a
set_option maxRecDepth 100000 in
set_option maxHeartbeats 2000000 in
theorem or_any (g : Nat) (a b : Int) (w : World) (c0 : w.cell? ⟨g, 0, none⟩ = some (.int .i64 a)) (c1 : w.cell? ⟨g, 1, none⟩ = some (.int .i64 b)) :
    Calls Try.prog 73 #[.slice (some ⟨g, 0, none⟩) 2 2] w fun e w' => e = .returned (.int .i64 (orI a b)) ∧ w' = w := by
  unfold orI
  by_cases ha : a = 0
  · rw [if_pos ha]
    subst ha
    by_cases hb : b = 0
    · subst hb
      go_enter Try.func73, Try.ntmps73
      go_wp2
      refine wp_loop_rounds 3 ?_
      rw [rounds_succ]
      go_wp2
      rw [rounds_succ]
      go_wp2
      rw [rounds_succ]
      go_wp2
      go_ret
      exact ⟨rfl, rfl⟩
    · go_enter Try.func73, Try.ntmps73
      go_wp2
      refine wp_loop_rounds 2 ?_
      rw [rounds_succ]
      go_wp2
      rw [rounds_succ]
      go_wp2
      go_ret
      exact ⟨rfl, rfl⟩
  · rw [if_neg ha]
    go_enter Try.func73, Try.ntmps73
    go_wp2
    refine wp_loop_rounds 1 ?_
    rw [rounds_succ]
    go_wp2
    go_ret
    exact ⟨rfl, rfl⟩
/-- In which order two entries are. -/
def cfE (x y : Int × Int) : Int := orI (cmpI x.1 y.1) (cmpI x.2 y.2)
theorem cfE_lt (x y : Int × Int) : cfE x y < 0 ↔ befE x y := by
  unfold cfE orI cmpI befE
  (repeat' split) <;> omega
set_option maxRecDepth 100000 in
set_option maxHeartbeats 4000000 in
theorem compare_any (p q : Nat) (x y : Int × Int) (w : World) (a0 : w.cell? ⟨p, 1, none⟩ = some (.int .u64 x.1)) (a1 : w.cell? ⟨p, 2, none⟩ = some (.int .u64 x.2)) (b0 : w.cell? ⟨q, 1, none⟩ = some (.int .u64 y.1)) (b1 : w.cell? ⟨q, 2, none⟩ = some (.int .u64 y.2)) :
    Calls Try.prog 49 #[.pointer (some ⟨p, 0, none⟩), .pointer (some ⟨q, 0, none⟩)] w fun e w' => e = .returned (.int .i64 (cfE x y)) ∧ ∃ n os, w' = Go.Sort.grow (w.drewN n) os := by
  obtain ⟨x0, x1⟩ := x
  obtain ⟨y0, y1⟩ := y
  have S2 : w.cell? ⟨p, 1, none⟩ = some (.int .u64 x0) ∧ w.cell? ⟨p, 2, none⟩ = some (.int .u64 x1) ∧ w.cell? ⟨q, 1, none⟩ = some (.int .u64 y0) ∧ w.cell? ⟨q, 2, none⟩ = some (.int .u64 y1) := ⟨a0, a1, b0, b1⟩
  unfold cfE
  dsimp only
  go_enter Try.func49, Try.ntmps49
  go_wp2_with fail
  go_region_held3 (fun W : World => W.cell? ⟨p, 1, none⟩ = some (.int .u64 x0) ∧ W.cell? ⟨p, 2, none⟩ = some (.int .u64 x1) ∧ W.cell? ⟨q, 1, none⟩ = some (.int .u64 y0) ∧ W.cell? ⟨q, 2, none⟩ = some (.int .u64 y1)) (first | assumption | (exact S2) | go_keep) (first
    | (go_at_call 74; refine (cmpU_any _ _ _).mono ?_; rintro e w' ⟨rfl, rfl⟩)
    | (go_at_call 73; refine (or_any _ (cmpI x0 y0) (cmpI x1 y1) _ (by simp) (by simp)).mono ?_; rintro e w' ⟨rfl, rfl⟩))
  all_goals clear S2 a0 a1 b0 b1
  all_goals go_wp2_with fail
  all_goals go_ret
  all_goals exact ⟨rfl, 1, _, Go.Sort.alloc_eq_grow (w.drewN 1) _⟩
theorem keeps_grow (w : World) (n : Nat) (os : Array Obj) : Keeps (fun _ => False) w (Go.Sort.grow (w.drewN n) os) := by
  refine ⟨rfl, rfl, rfl, by simp [Go.Sort.grow], fun k hk _ => ?_⟩
  rw [Go.Sort.heap_grow_old _ _ (by simpa using hk)]
  rfl
set_option maxHeartbeats 2000000 in
theorem ahead_any {p q : Nat} {a b : Tr} {w : World} (ha : TrAt w p a) (hb : TrAt w q b) :
    Calls Try.prog 78 #[.pointer (some ⟨p, 0, none⟩), .pointer (some ⟨q, 0, none⟩)] w fun e w' => e = .returned (.bool (decide (befE a.ent b.ent))) ∧ Keeps (fun _ => False) w w' := by
  have HC : Hid (Calls Try.prog 49 #[.pointer (some ⟨p, 0, none⟩), .pointer (some ⟨q, 0, none⟩)] w fun e w' => e = .returned (.int .i64 (cfE a.ent b.ent)) ∧ Keeps (fun _ => False) w w') := by
    refine hid ((compare_any p q a.ent b.ent w ha.cells.2.1 ha.cells.2.2.1 hb.cells.2.1 hb.cells.2.2.1).mono ?_)
    rintro e w' ⟨rfl, n, os, rfl⟩
    exact ⟨rfl, keeps_grow w n os⟩
  have HD : Hid (decide (cfE a.ent b.ent < 0) = decide (befE a.ent b.ent)) := hid (by rw [decide_eq_decide]; exact cfE_lt _ _)
  generalize cfE a.ent b.ent = z at HC HD
  rw [← HD.out]
  clear ha hb HD
  go_enter Try.func78, Try.ntmps78
  go_wp2_with fail
  refine HC.out.mono ?_
  rintro e w1 ⟨rfl, k1⟩
  have HK := hid k1
  clear HC k1
  go_wp2_with fail
  go_ret
  exact ⟨rfl, HK.out⟩
end Go.Proofs.Ytalopkllldnipaa
