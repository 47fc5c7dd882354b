
/-
  A read log that is none: nil, or zero. No statement of the seat is proved here.
-/
import Derived.Test.YtbgnlenhncbceaaDoorReadsB
import Derived.Test.YtbgnlenhncbceaaDoorCutA
namespace Go.Proofs.YtbgnlenhncbceaaDoor
open Go.RowKit Go.Shelf

/-- A read log that is none. -/
def NoRead (w : World) (p : Option Addr) : Prop := p = none ∨ ∃ r, p = some ⟨r, 0, none⟩ ∧ w.heap[r]? = some (.cells #[.bool false, .int .i64 0, .slice none 0 0] 31 (0, 0))
theorem NoRead.keeps {w w' : World} {p : Option Addr} (h : NoRead w p) (k : Keeps (fun _ => False) w w') : NoRead w' p := by
  rcases h with h | ⟨r, h, hb⟩
  · exact .inl h
  · exact .inr ⟨r, h, k.old hb (fun f => f)⟩

theorem there_none (p : Option Addr) (w : World) (h : NoRead w p) : Calls Tryd.prog 41 #[.pointer p] w fun e w' => e = .returned (.bool false) ∧ w' = w := by
  rcases h with rfl | ⟨r, rfl, hb⟩
  · go_enter Tryd.func41, Tryd.ntmps41
    go_wp2_with fail
    go_ret
    exact ⟨rfl, rfl⟩
  · have c0 : w.cell? ⟨r, 0, none⟩ = some (.bool false) := cell_of_block hb 0
    clear hb
    go_enter Tryd.func41, Tryd.ntmps41
    go_wp2_with fail
    go_ret
    exact ⟨rfl, rfl⟩
theorem handed_none (p : Option Addr) (w : World) (h : NoRead w p) : Calls Tryd.prog 42 #[.pointer p] w fun e w' => e = .returned (.slice none 0 0) ∧ w' = w := by
  rcases h with rfl | ⟨r, rfl, hb⟩
  · go_enter Tryd.func42, Tryd.ntmps42
    go_wp2_with fail
    go_ret
    exact ⟨rfl, rfl⟩
  · exact reads_handed r 0 0 none w (cell_of_block hb 2) (Nat.le_refl _)
theorem len_none (p : Option Addr) (w : World) (h : NoRead w p) : Calls Tryd.prog 32 #[.pointer p] w fun e w' => e = .returned (.int .i64 0) ∧ w' = w := by
  have hh := handed_none p w h
  clear h
  go_enter Tryd.func32, Tryd.ntmps32
  go_wp2_with (first | (go_at_call 42; refine hh.mono ?_; rintro e w' ⟨rfl, hw'⟩; replace hw' := hw'.symm; subst hw'))
  go_ret
  exact ⟨rfl, rfl⟩
theorem add_none (p : Option Addr) (a x : Int) (w : World) (h : NoRead w p) : Calls Tryd.prog 28 #[.pointer p, .int .u64 a, .int .u64 x] w fun e w' => e = .returned (.int .i64 1) ∧ w' = w := by
  have ht := there_none p w h
  clear h
  go_enter Tryd.func28, Tryd.ntmps28
  go_wp2_with (first | (go_at_call 41; refine ht.mono ?_; rintro e w' ⟨rfl, hw'⟩; replace hw' := hw'.symm; subst hw'))
  go_ret
  exact ⟨rfl, rfl⟩
theorem cut_none (p : Option Addr) (n : Int) (w : World) (h : NoRead w p) : Calls Tryd.prog 31 #[.pointer p, .int .i64 n] w fun e w' => e = .returned (.int .i64 1) ∧ w' = w := by
  have ht := there_none p w h
  clear h
  go_enter Tryd.func31, Tryd.ntmps31
  go_wp2_with (first | (go_at_call 41; refine ht.mono ?_; rintro e w' ⟨rfl, hw'⟩; replace hw' := hw'.symm; subst hw'))
  go_ret
  exact ⟨rfl, rfl⟩
theorem copy_none (p : Option Addr) (w : World) (h : NoRead w p) : Calls Tryd.prog 11 #[.pointer p] w fun e w' => e = .returned (.pointer none) ∧ w' = w := by
  have ht := there_none p w h
  clear h
  go_enter Tryd.func11, Tryd.ntmps11
  go_wp2_with (first | (go_at_call 41; refine ht.mono ?_; rintro e w' ⟨rfl, hw'⟩; replace hw' := hw'.symm; subst hw'))
  go_ret
  exact ⟨rfl, rfl⟩
set_option maxRecDepth 100000 in
set_option maxHeartbeats 400000 in
/-- At, by what the log hands on. -/
theorem at_handed (p : Option Addr) (es : List (Int × Int)) (a1 : Option Addr) (c1 : Nat) (k : Int) (w : World)
    (hh : Calls Tryd.prog 42 #[.pointer p] (w.alloc (.cells #[.int .u64 0, .int .u64 0] 72)) fun e w' => e = .returned (.slice a1 es.length c1) ∧ w' = w.alloc (.cells #[.int .u64 0, .int .u64 0] 72))
    (hp : Pairs (w.alloc (.cells #[.int .u64 0, .int .u64 0] 72)) (.slice a1 es.length c1) es) :
    Calls Tryd.prog 39 #[.pointer p, .int .i64 k] w fun e w' => e = .returned (.tuple #[.agg #[.int .u64 (atC es k).1, .int .u64 (atC es k).2], .bool (atB es k)]) ∧ Keeps (fun _ => False) w w' := by
  have hk0 := (Keeps.refl (fun _ => False) w).alloc (.cells #[.int .u64 0, .int .u64 0] 72)
  have hb0 := alloc_block w (.cells #[.int .u64 0, .int .u64 0] 72)
  have hat := at_any _ es k _ hp
  clear hp
  generalize (atC es k).1 = x at *
  generalize (atC es k).2 = y at *
  generalize atB es k = b at *
  go_enter Tryd.func39, Tryd.ntmps39
  go_wp2_with (first | (go_at_call 42; refine hh.mono ?_; rintro e w' ⟨rfl, hw'⟩; replace hw' := hw'.symm; subst hw'))
  refine hat.mono ?_
  rintro e w1 ⟨rfl, hk1⟩
  have hb1 := hk1.old hb0 (fun f => f)
  have s0 := cell_of_block hb1 0
  have s1 := cell_of_block hb1 1
  have f0 := frozen_of_block hb1 0
  have f1 := frozen_of_block hb1 1
  have hb2 := block_set (block_set hb1 0 (.int .u64 x)) 1 (.int .u64 y)
  have t0 := cell_of_block hb2 0
  have t1 := cell_of_block hb2 1
  have hend : Hid (Keeps (fun _ => False) w ((w1.setCell ⟨w.heap.size, 0, none⟩ (.int .u64 x)).setCell ⟨w.heap.size, 1, none⟩ (.int .u64 y))) := ((hk0.trans hk1).setCell (p := ⟨w.heap.size, 0, none⟩) (.inl (Nat.le_refl _)) _).setCell (p := ⟨w.heap.size, 1, none⟩) (.inl (Nat.le_refl _)) _
  clear hat hh hk1 hk0 hb0 hb1 hb2
  go_wp2_with fail
  refine ⟨rfl, .tuple #[.agg #[.int .u64 x, .int .u64 y], .bool b], ?_, rfl, hend.out⟩
  simp at t0 t1
  simp [results, Tryd.f39, go_sem, t0, t1]
theorem at_none (p : Option Addr) (k : Int) (w : World) (h : NoRead w p) : Calls Tryd.prog 39 #[.pointer p, .int .i64 k] w fun e w' => e = .returned (.tuple #[.agg #[.int .u64 0, .int .u64 0], .bool false]) ∧ Keeps (fun _ => False) w w' := by
  have h1 := at_handed p [] none 0 k w (handed_none p _ (h.keeps ((Keeps.refl _ w).alloc _))) ⟨none, 0, rfl, fun i hi => by simp at hi⟩
  obtain ⟨e1, e2⟩ := atC_no (es := []) (k := k) (by simp; omega)
  rw [e1, e2] at h1
  exact h1
end Go.Proofs.YtbgnlenhncbceaaDoor
