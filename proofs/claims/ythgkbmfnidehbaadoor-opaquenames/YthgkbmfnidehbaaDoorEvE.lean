
/- A course and its threads as they lie; walks of turn, locked, numbered, owned (package events). No statement of the seat is proved here. -/
import Derived.Test.YthgkbmfnidehbaaDoorEvD
namespace Go.Proofs.YthgkbmfnidehbaaDoor
open Go.RowKit Go.Shelf

theorem turn_table (st : Nat) (h0 : 1 ≤ st) (h1 : st ≤ 4) (e : Ev) (k0 : 1 ≤ e.kd) (k1 : e.kd ≤ 12) (hn : ¬ (st = 1 ∧ e.kd = 9 ∧ e.er ≠ 4)) : turnT st e.kd.toNat = (turnN st e : Int) := by
  have hst : st = 1 ∨ st = 2 ∨ st = 3 ∨ st = 4 := by omega
  obtain ⟨th, kd, ad, wd, own, er⟩ := e
  dsimp only at *
  rcases hst with rfl | rfl | rfl | rfl <;> rcases kd12 k0 k1 with rfl | rfl | rfl | rfl | rfl | rfl | rfl | rfl | rfl | rfl | rfl | rfl
  all_goals first | rfl | (have h4 : er = 4 := by simpa using hn
                           subst h4; rfl)
theorem turn_none {e : Ev} (h9 : e.kd = 9) (h4 : e.er ≠ 4) : turnN 1 e = 0 := by unfold turnN; rw [if_pos rfl, h9]; simp [h4]

set_option maxRecDepth 100000 in
set_option maxHeartbeats 2000000 in
theorem turn_any (c o st : Nat) (h0 : 1 ≤ st) (h1 : st ≤ 4) (e : Ev) (k0 : 1 ≤ e.kd) (k1 : e.kd ≤ 12) (w : World) (hc : w.cell? ⟨c, o, none⟩ = some (.int .i64 (st : Int))) (hg : Gv w) :
    Calls Tryd.prog 50 #[.pointer (some ⟨c, o, none⟩), .agg e.cells] w fun ex w' => ex = .returned (.int .i64 (turnN st e : Int)) ∧ Keeps (fun _ => False) w w' := by
  have hT := turn_table st h0 h1 e k0 k1
  have hN := @turn_none e
  have ct := hg.tn st e.kd.toNat (by omega) (by omega)
  generalize turnT st e.kd.toNat = tt at *
  generalize hq : turnN st e = tn at *
  obtain ⟨th, kd, ad, wd, own, er⟩ := e
  dsimp only at *
  obtain ⟨k, rfl⟩ : ∃ k : Nat, kd = k := ⟨kd.toNat, by omega⟩
  have hk13 : (k : Int) < 13 := by omega
  have hs5 : (st : Int) < 5 := by omega
  have hs0 : (0 : Int) ≤ st := by omega
  have hk0 : (0 : Int) ≤ k := by omega
  have hcl := World.block_lt_of_cell? _ _ hc
  have hgl := World.block_lt_of_cell? _ _ ct
  simp only [Int.toNat_natCast] at ct
  have kk := (Keeps.refl (fun _ => False) w).alloc (.cells #[.int .i64 th, .int .i64 k, .int .u64 ad, .int .u64 wd, .bool own, .int .i64 er] 29)
  clear hg
  show Calls Tryd.prog 50 #[.pointer (some ⟨c, o, none⟩), .agg #[.int .i64 th, .int .i64 k, .int .u64 ad, .int .u64 wd, .bool own, .int .i64 er]] w fun ex w' => ex = .returned (.int .i64 (tn : Int)) ∧ Keeps (fun _ => False) w w'
  by_cases hx : st = 1 ∧ (k : Int) = 9 ∧ er ≠ 4
  · obtain ⟨rfl, hk9, he⟩ := hx
    obtain rfl : k = 9 := by omega
    obtain rfl : tn = 0 := by rw [← hq]; exact hN rfl he
    clear hT hN hq ct
    go_enter Tryd.func50, Tryd.ntmps50
    go_wp2_with fail
    go_ret
    exact ⟨rfl, kk⟩
  · have hT2 := hT hx
    clear hT hN hq
    subst hT2
    have hcond : (st ≠ 1) ∨ (st = 1 ∧ k ≠ 9) ∨ (st = 1 ∧ k = 9 ∧ er = 4) := by omega
    clear hx
    rcases hcond with h | ⟨rfl, h⟩ | ⟨rfl, rfl, rfl⟩
    · have h' : ¬ (st : Int) = 1 := by omega
      clear h
      go_enter Tryd.func50, Tryd.ntmps50
      go_wp2_with fail
      go_quiet (fail)
      go_wp2_with fail
      go_ret
      exact ⟨rfl, kk.drewN _⟩
    · have h' : ¬ (k : Int) = 9 := by omega
      clear h
      go_enter Tryd.func50, Tryd.ntmps50
      go_wp2_with fail
      go_quiet (fail)
      go_wp2_with fail
      go_ret
      exact ⟨rfl, kk.drewN _⟩
    · go_enter Tryd.func50, Tryd.ntmps50
      go_wp2_with fail
      go_quiet (fail)
      go_wp2_with fail
      go_ret
      exact ⟨rfl, kk.drewN _⟩

set_option maxRecDepth 100000 in
set_option maxHeartbeats 2000000 in
theorem locked_any (c : Nat) (hd : Bool) (kd : Int) (w : World) (hc : w.cell? ⟨c, 1, none⟩ = some (.bool hd)) :
    Calls Tryd.prog 51 #[.pointer (some ⟨c, 0, none⟩), .int .i64 kd] w fun ex w' => ex = .returned (.bool (hd && clkB kd)) ∧ w' = w := by
  cases hd
  · go_enter Tryd.func51, Tryd.ntmps51
    go_wp2_with fail
    go_ret
    exact ⟨rfl, rfl⟩
  · by_cases h1 : kd = 1
    · subst h1
      go_enter Tryd.func51, Tryd.ntmps51
      go_wp2_with fail
      go_ret
      exact ⟨rfl, rfl⟩
    · by_cases h4 : kd = 4
      · subst h4
        go_enter Tryd.func51, Tryd.ntmps51
        go_wp2_with fail
        go_ret
        exact ⟨rfl, rfl⟩
      · go_enter Tryd.func51, Tryd.ntmps51
        go_wp2_with fail
        go_ret
        exact ⟨by rw [show (kd == 1) = false from beq_eq_false_iff_ne.2 h1, show (kd == 4) = false from beq_eq_false_iff_ne.2 h4]; simp [clkB, h1, h4]; rfl, rfl⟩

set_option maxRecDepth 100000 in
set_option maxHeartbeats 4000000 in
theorem numbered_any (c o : Nat) (n sn : Int) (st : Nat) (wr : List (Int × Int)) (e : Ev) (w : World) (hn0 : 0 ≤ n) (hn1 : n < 4611686018427387904) (hs0 : 0 ≤ sn) (hs1 : sn < 18446744073709551616) (cn : w.cell? ⟨c, 0, none⟩ = some (.int .u64 n)) (c0 : w.cell? ⟨c, o, none⟩ = some (.int .i64 (st : Int))) (c1 : w.cell? ⟨c, o + 1, none⟩ = some (.int .u64 sn)) :
    Calls Tryd.prog 52 #[.pointer (some ⟨c, 0, none⟩), .pointer (some ⟨c, o, none⟩), .agg e.cells] w fun ex w' => ex = .returned (.bool (numE n ⟨st, sn, wr⟩ e)) ∧ Keeps (fun _ => False) w w' := by
  obtain ⟨th, kd, ad, wd, own, er⟩ := e
  have hcl := World.block_lt_of_cell? _ _ cn
  have kk := (Keeps.refl (fun _ => False) w).alloc (.cells #[.int .i64 th, .int .i64 kd, .int .u64 ad, .int .u64 wd, .bool own, .int .i64 er] 29)
  show Calls Tryd.prog 52 #[.pointer (some ⟨c, 0, none⟩), .pointer (some ⟨c, o, none⟩), .agg #[.int .i64 th, .int .i64 kd, .int .u64 ad, .int .u64 wd, .bool own, .int .i64 er]] w fun ex w' => ex = .returned (.bool (numE n ⟨st, sn, wr⟩ ⟨th, kd, ad, wd, own, er⟩)) ∧ Keeps (fun _ => False) w w'
  by_cases h1 : kd = 1
  · subst h1
    go_enter Tryd.func52, Tryd.ntmps52
    go_wp2_with fail
    go_quiet (fail)
    go_wp2_with fail
    go_ret
    exact ⟨by simp [numE]; rfl, kk.drewN _⟩
  · by_cases h4 : kd = 4
    · subst h4
      by_cases hw : wd = 2 * n
      · have hw2 : (wd == 2 * n) = true := by simp [hw]
        clear hw
        go_enter Tryd.func52, Tryd.ntmps52
        go_wp2_with fail
        go_quiet (fail)
        go_wp2_with fail
        go_ret
        exact ⟨by have hw := eq_of_beq hw2; simp [numE, hw], kk.drewN _⟩
      · have hw2 : (wd == 2 * n) = false := by simp [hw]
        go_enter Tryd.func52, Tryd.ntmps52
        go_wp2_with fail
        go_quiet (fail)
        go_wp2_with fail
        go_ret
        exact ⟨by simp [numE, hw], kk.drewN _⟩
    · by_cases h5 : kd = 5
      · subst h5
        go_enter Tryd.func52, Tryd.ntmps52
        go_wp2_with fail
        go_quiet (fail)
        go_wp2_with fail
        go_ret
        exact ⟨by simp [numE]; rfl, kk.drewN _⟩
      · by_cases h6 : kd = 6
        · subst h6
          by_cases hst : st = 3
          · subst hst
            go_enter Tryd.func52, Tryd.ntmps52
            go_wp2_with fail
            go_quiet (fail)
            go_wp2_with fail
            go_ret
            exact ⟨by simp [numE]; rfl, kk.drewN _⟩
          · have hst2 : ¬ (st : Int) = 3 := by omega
            go_enter Tryd.func52, Tryd.ntmps52
            go_wp2_with fail
            go_quiet (fail)
            go_wp2_with fail
            go_ret
            exact ⟨by simp [numE, hst]; rfl, kk.drewN _⟩
        · go_enter Tryd.func52, Tryd.ntmps52
          go_wp2_with fail
          go_ret
          exact ⟨by simp [numE, h1, h4, h5, h6], kk⟩
end Go.Proofs.YthgkbmfnidehbaaDoor
