/-
  No statement of the seat is proved here. (Several texts in one: EvDd, EvRc.)
-/
import Derived.Test.YtjmmjkoloioddaaDoorM23EvDb
import Derived.Test.YtjmmjkoloioddaaDoorM00CMem

/- Walks of the document's number, own (package parleyref13). No statement of the seat is proved here. -/
namespace Go.Proofs.YtjmmjkoloioddaaDoor
open Go.RowKit Go.Shelf

theorem boxed (w : World) (th kd ad wd : Int) (own : Bool) (er : Int) : Keeps (fun _ => False) w (w.alloc (.cells #[.int .i64 th, .int .i64 kd, .int .u64 ad, .int .u64 wd, .bool own, .int .i64 er] 44)) ∧ (w.alloc (.cells #[.int .i64 th, .int .i64 kd, .int .u64 ad, .int .u64 wd, .bool own, .int .i64 er] 44)).cell? ⟨w.heap.size, 0, none⟩ = some (.int .i64 th) ∧ (w.alloc (.cells #[.int .i64 th, .int .i64 kd, .int .u64 ad, .int .u64 wd, .bool own, .int .i64 er] 44)).cell? ⟨w.heap.size, 1, none⟩ = some (.int .i64 kd) ∧ (w.alloc (.cells #[.int .i64 th, .int .i64 kd, .int .u64 ad, .int .u64 wd, .bool own, .int .i64 er] 44)).cell? ⟨w.heap.size, 2, none⟩ = some (.int .u64 ad) ∧ (w.alloc (.cells #[.int .i64 th, .int .i64 kd, .int .u64 ad, .int .u64 wd, .bool own, .int .i64 er] 44)).cell? ⟨w.heap.size, 3, none⟩ = some (.int .u64 wd) ∧ (w.alloc (.cells #[.int .i64 th, .int .i64 kd, .int .u64 ad, .int .u64 wd, .bool own, .int .i64 er] 44)).cell? ⟨w.heap.size, 4, none⟩ = some (.bool own) ∧ (w.alloc (.cells #[.int .i64 th, .int .i64 kd, .int .u64 ad, .int .u64 wd, .bool own, .int .i64 er] 44)).cell? ⟨w.heap.size, 5, none⟩ = some (.int .i64 er) := by
  have h := (MapKept.heap_alloc w (.cells #[.int .i64 th, .int .i64 kd, .int .u64 ad, .int .u64 wd, .bool own, .int .i64 er] 44)).1
  exact ⟨(Keeps.refl _ w).alloc _, by rw [cell_of_block h]; rfl, by rw [cell_of_block h]; rfl, by rw [cell_of_block h]; rfl, by rw [cell_of_block h]; rfl, by rw [cell_of_block h]; rfl, by rw [cell_of_block h]; rfl⟩
theorem cell_more {w w' : World} {b o : Nat} {v : Value} (k : Keeps (fun _ => False) w w') (h : w.cell? ⟨b, o, none⟩ = some v) : w'.cell? ⟨b, o, none⟩ = some v := by
  have hb := k.block b (World.block_lt_of_cell? _ _ h) (fun f => f)
  rw [← h]; simp [World.cell?, hb]
set_option maxRecDepth 100000 in
set_option maxHeartbeats 4000000 in
theorem rnumber_any (b T : Nat) (n : Int) (hn0 : 0 ≤ n) (hn : n < 4611686018427387904) (s : Sd) (hs1 : 1 ≤ s.st) (hsn : 0 ≤ s.sn) (hsn2 : s.sn < 18446744073709551616) (e : Ev) (h0 : 1 ≤ e.kd) (h1 : e.kd ≤ 12) (w : World) (n0 : w.cell? ⟨b, 24, none⟩ = some (.int .u64 n)) (s0 : w.cell? ⟨b, T * 3, none⟩ = some (.int .i64 ((s.st : Int) - 1))) (s1 : w.cell? ⟨b, T * 3 + 1, none⟩ = some (.int .u64 s.sn)) :
    Calls Tryd.prog 70 #[.pointer (some ⟨b, 0, none⟩), .pointer (some ⟨b, T * 3, none⟩), .agg e.cells] w fun ex w' => ex = .returned (.bool (numE n s e)) ∧ Keeps (fun _ => False) w w' := by
  obtain ⟨th, kd, ad, wd, own, er⟩ := e
  obtain ⟨st, sn, wr⟩ := s
  dsimp only at h0 h1 s0 s1 hs1 hsn hsn2
  obtain ⟨k0, x0, x1, x2, x3, x4, x5⟩ := boxed w th kd ad wd own er
  replace n0 := cell_more k0 n0
  replace s0 := cell_more k0 s0
  replace s1 := cell_more k0 s1
  have w2 : IntKind.u64.wrap (2 * n) = 2 * n := by rw [IntKind.wrap_u64]; omega
  have w1 : IntKind.u64.wrap (n + 1) = n + 1 := by rw [IntKind.wrap_u64]; omega
  have wsd : IntKind.u64.wrap (sn / 2) = sn / 2 := by rw [IntKind.wrap_u64]; omega
  have td : sn.tdiv 2 = sn / 2 := by rw [Int.tdiv_eq_ediv_of_nonneg hsn]
  show Calls Tryd.prog 70 #[.pointer (some ⟨b, 0, none⟩), .pointer (some ⟨b, T * 3, none⟩), .agg #[.int .i64 th, .int .i64 kd, .int .u64 ad, .int .u64 wd, .bool own, .int .i64 er]] w _
  unfold numE
  dsimp only
  by_cases h1' : kd = 1
  · subst h1'
    go_enter Tryd.func70, Tryd.ntmps70
    go_wp2_with fail
    go_quiet (fail)
    go_wp2_with fail
    go_ret
    exact ⟨rfl, k0.drewN _⟩
  · by_cases h4 : kd = 4
    · subst h4
      by_cases hw : wd = 2 * n
      · have hw1 : (wd == 2 * n) = true := by simpa using hw
        have hE : decide (wd = 2 * n) = true := decide_eq_true hw
        have HE : Hid (wd = 2 * n) := hw
        clear hw
        go_enter Tryd.func70, Tryd.ntmps70
        go_wp2_with fail
        go_quiet (fail)
        go_wp2_with fail
        go_ret
        exact ⟨by simp, k0.drewN _⟩
      · have hw1 : (wd == 2 * n) = false := by simpa using hw
        have hE : decide (wd = 2 * n) = false := decide_eq_false hw
        go_enter Tryd.func70, Tryd.ntmps70
        go_wp2_with fail
        go_quiet (fail)
        go_wp2_with fail
        go_ret
        exact ⟨by simp, k0.drewN _⟩
    · by_cases h5 : kd = 5
      · subst h5
        go_enter Tryd.func70, Tryd.ntmps70
        go_wp2_with fail
        go_quiet (fail)
        go_wp2_with fail
        go_ret
        exact ⟨rfl, k0.drewN _⟩
      · by_cases h6 : kd = 6
        · subst h6
          by_cases hst : st = 3
          · subst hst
            go_enter Tryd.func70, Tryd.ntmps70
            go_wp2_with fail
            go_quiet (fail)
            go_wp2_with fail
            go_ret
            exact ⟨by simp; rfl, k0.drewN _⟩
          · have q1 : (((st : Int) - 1) == 2) = false := by simp; omega
            have q2 : ¬ ((st : Int) - 1 = 2) := by omega
            go_enter Tryd.func70, Tryd.ntmps70
            go_wp2_with fail
            go_quiet (fail)
            go_wp2_with fail
            go_ret
            exact ⟨by simp; rfl, k0.drewN _⟩
        · have e1 : (kd == 1) = false := by simpa using h1'
          have e4 : (kd == 4) = false := by simpa using h4
          have e5 : (kd == 5) = false := by simpa using h5
          have e6 : (kd == 6) = false := by simpa using h6
          go_enter Tryd.func70, Tryd.ntmps70
          go_wp2_with fail
          go_ret
          exact ⟨by simp, k0⟩
set_option maxRecDepth 100000 in
set_option maxHeartbeats 4000000 in
theorem rown_any (b T : Nat) (s : Sd) (hs1 : 1 ≤ s.st) (hsl : s.wr.length ≤ 4611686018427387) (e : Ev) (v : Value) (w : World) (s0 : w.cell? ⟨b, T * 3, none⟩ = some (.int .i64 ((s.st : Int) - 1))) (s2 : w.cell? ⟨b, T * 3 + 2, none⟩ = some v) (hv : ElsAt Cl2 2 w v s.wr.reverse) :
    Calls Tryd.prog 71 #[.pointer (some ⟨b, T * 3, none⟩), .agg e.cells] w fun ex w' => ex = .returned (.bool (ownE s e)) ∧ Keeps (fun _ => False) w w' := by
  obtain ⟨th, kd, ad, wd, own, er⟩ := e
  obtain ⟨st, sn, wr⟩ := s
  dsimp only at s0 hs1 hsl hv
  obtain ⟨k0, x0, x1, x2, x3, x4, x5⟩ := boxed w th kd ad wd own er
  replace s0 := cell_more k0 s0
  replace s2 := cell_more k0 s2
  have hv' := hv.keeps cl2_ne k0
  have WR : ∀ n, Calls Tryd.prog 90 #[v, .int .u64 ad] ((w.alloc (.cells #[.int .i64 th, .int .i64 kd, .int .u64 ad, .int .u64 wd, .bool own, .int .i64 er] 44)).drewN n) fun ex w' => ex = .returned (.tuple #[.int .u64 ((wr.lookup ad).getD 0), .bool (wr.lookup ad).isSome]) ∧ w' = (w.alloc (.cells #[.int .i64 th, .int .i64 kd, .int .u64 ad, .int .u64 wd, .bool own, .int .i64 er] 44)).drewN n := fun n => by
    have := rwritten_any v wr.reverse (by simpa using hsl) ad ((w.alloc (.cells #[.int .i64 th, .int .i64 kd, .int .u64 ad, .int .u64 wd, .bool own, .int .i64 er] 44)).drewN n) (hv'.keeps cl2_ne ((Keeps.refl _ _).drewN n))
    rwa [List.reverse_reverse] at this
  obtain ⟨a, cap, rfl, hcap⟩ := hv.shape
  have hrl : wr.reverse.length = wr.length := by simp
  rw [hrl] at s2 WR
  show Calls Tryd.prog 71 #[.pointer (some ⟨b, T * 3, none⟩), .agg #[.int .i64 th, .int .i64 kd, .int .u64 ad, .int .u64 wd, .bool own, .int .i64 er]] w _
  unfold ownE
  dsimp only
  clear hv hv'
  by_cases h2 : kd = 2
  · subst h2
    generalize wr.lookup ad = lk at *
    cases lk with
    | none =>
      simp only [Option.getD_none, Option.isSome_none] at WR
      cases own with
      | true =>
        go_enter Tryd.func71, Tryd.ntmps71
        go_wp2_with fail
        go_quiet ((go_at_call 90; exact Calls.quiet_of_same (WR _)))
        go_wp2_with fail
        go_ret
        exact ⟨rfl, k0.drewN _⟩
      | false =>
        go_enter Tryd.func71, Tryd.ntmps71
        go_wp2_with fail
        go_quiet ((go_at_call 90; exact Calls.quiet_of_same (WR _)))
        go_wp2_with fail
        go_ret
        exact ⟨rfl, k0.drewN _⟩
    | some x =>
      simp only [Option.getD_some, Option.isSome_some] at WR
      cases own with
      | true =>
        go_enter Tryd.func71, Tryd.ntmps71
        go_wp2_with fail
        go_quiet ((go_at_call 90; exact Calls.quiet_of_same (WR _)))
        go_wp2_with fail
        go_ret
        exact ⟨rfl, k0.drewN _⟩
      | false =>
        go_enter Tryd.func71, Tryd.ntmps71
        go_wp2_with fail
        go_quiet ((go_at_call 90; exact Calls.quiet_of_same (WR _)))
        go_wp2_with fail
        go_ret
        exact ⟨rfl, k0.drewN _⟩
  · have e2 : (kd == 2) = false := by simpa using h2
    clear WR
    by_cases h5 : kd = 5
    · subst h5
      go_enter Tryd.func71, Tryd.ntmps71
      go_wp2_with fail
      go_ret
      exact ⟨by cases wr <;> simp, k0⟩
    · have e5 : (kd == 5) = false := by simpa using h5
      by_cases h6 : kd = 6
      · subst h6
        by_cases hst : st = 3
        · subst hst
          go_enter Tryd.func71, Tryd.ntmps71
          go_wp2_with fail
          go_ret
          exact ⟨by simp, k0⟩
        · have q1 : (((st : Int) - 1) == 2) = false := by simp; omega
          have q2 : ¬ ((st : Int) - 1 = 2) := by omega
          have hw : ((wr.length : Int) == 0) = decide (wr = []) := by cases wr <;> simp; omega
          go_enter Tryd.func71, Tryd.ntmps71
          go_wp2_with fail
          go_ret
          exact ⟨by simp [← hw], k0⟩
      · have e6 : (kd == 6) = false := by simpa using h6
        go_enter Tryd.func71, Tryd.ntmps71
        go_wp2_with fail
        go_ret
        exact ⟨by simp, k0⟩
end Go.Proofs.YtjmmjkoloioddaaDoor


/- Walks of the document's pair, single, Formed, turn (package parleyref13). No statement of the seat is proved here. -/
namespace Go.Proofs.YtjmmjkoloioddaaDoor
open Go.RowKit Go.Shelf

theorem rpair_any (k : Int) (h0 : 1 ≤ k) (h1 : k ≤ 12) (w : World) : Calls Tryd.prog 88 #[.int .i64 k] w fun e w' => e = .returned (.bool (adB k)) ∧ w' = w := by
  rcases kd12 h0 h1 with rfl | rfl | rfl | rfl | rfl | rfl | rfl | rfl | rfl | rfl | rfl | rfl
  all_goals
    go_enter Tryd.func88, Tryd.ntmps88
    go_wp2
    go_ret
    exact ⟨rfl, rfl⟩
theorem rsingle_any (k : Int) (h0 : 1 ≤ k) (h1 : k ≤ 12) (w : World) : Calls Tryd.prog 89 #[.int .i64 k] w fun e w' => e = .returned (.bool (!adB k && wdB k)) ∧ w' = w := by
  rcases kd12 h0 h1 with rfl | rfl | rfl | rfl | rfl | rfl | rfl | rfl | rfl | rfl | rfl | rfl
  all_goals
    go_enter Tryd.func89, Tryd.ntmps89
    go_wp2
    go_ret
    exact ⟨rfl, rfl⟩
def FP (th kd ad wd : Int) (own : Bool) (er : Int) (w : World) : Ending → World → Prop := fun e w' => e = .returned (.bool (formedE ⟨th, kd, ad, wd, own, er⟩)) ∧ Keeps (fun _ => False) w w'
theorem FP.mk {th kd ad wd : Int} {own b : Bool} {er : Int} {w : World} {o : Obj} (h : formedE ⟨th, kd, ad, wd, own, er⟩ = b) : FP th kd ad wd own er w (.returned (.bool b)) (w.alloc o) := ⟨by rw [h], (Keeps.refl _ w).alloc o⟩
end Go.Proofs.YtjmmjkoloioddaaDoor
