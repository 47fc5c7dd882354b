/-
  The program's All, Take, Get, Put, Clear, Keys, Copy at a table that is not there. No statement of the seat is proved here.
-/
import Derived.Test.YtbhocajmcfdffaaDoorComingU
import Derived.ProofKit
import Derived.OpenShut
namespace Go.Proofs.YtbhocajmcfdffaaDoor.U
open Go.RowKit Go.Shelf
attribute [local go_sem] Oper.semAt_some

set_option maxHeartbeats 400000 in
theorem all_any (p : Option Addr) (w : World) : Calls Tryd.prog 19 #[.pointer p] w fun e w' => e = .returned (.func (.func 61) #[] #[.pointer (some ⟨w.heap.size, 0, none⟩)]) ∧ w' = w.alloc (.cells #[.pointer p] 23) := by
  go_enter Tryd.func19, Tryd.ntmps19
  go_wp2
  go_ret
  exact ⟨rfl, rfl⟩
set_option maxHeartbeats 400000 in
theorem put_no (p : Option Addr) (k : Int) (v : Int) (w : World) (h : NoTab w p) : Calls Tryd.prog 47 #[.pointer p, .int .u64 k, .int .u64 v] w fun e w' => e = .returned (.tuple #[Value.int .u64 0, .bool false, .int .i64 1]) ∧ w' = w := by
  go_enter Tryd.func47, Tryd.ntmps47
  go_wp2_with (go_at_call 43; refine (made_no p _ h).mono ?_; rintro e w' ⟨rfl, rfl⟩)
  go_ret3
  exact ⟨rfl, rfl⟩
set_option maxHeartbeats 400000 in
theorem get_no (p : Option Addr) (k : Int) (w : World) (h : NoTab w p) : Calls Tryd.prog 51 #[.pointer p, .int .u64 k] w fun e w' => e = .returned (.tuple #[Value.int .u64 0, .bool false]) ∧ w' = w := by
  go_enter Tryd.func51, Tryd.ntmps51
  go_wp2_with (go_at_call 43; refine (made_no p _ h).mono ?_; rintro e w' ⟨rfl, rfl⟩)
  go_ret2
  exact ⟨rfl, rfl⟩
set_option maxHeartbeats 400000 in
theorem take_no (p : Option Addr) (k : Int) (w : World) (h : NoTab w p) : Calls Tryd.prog 52 #[.pointer p, .int .u64 k] w fun e w' => e = .returned (.tuple #[Value.int .u64 0, .bool false]) ∧ w' = w := by
  go_enter Tryd.func52, Tryd.ntmps52
  go_wp2_with (go_at_call 43; refine (made_no p _ h).mono ?_; rintro e w' ⟨rfl, rfl⟩)
  go_ret2
  exact ⟨rfl, rfl⟩
set_option maxHeartbeats 400000 in
theorem asked_no (p : Option Addr) (k : Int) (w : World) (h : NoTab w p) : Calls Tryd.prog 17 #[.pointer p, .int .u64 k] w fun e w' => e = .returned (.int .i64 0) ∧ w' = w := by
  go_enter Tryd.func17, Tryd.ntmps17
  go_wp2_with (go_at_call 43; refine (made_no p _ h).mono ?_; rintro e w' ⟨rfl, rfl⟩)
  go_ret
  exact ⟨rfl, rfl⟩
set_option maxHeartbeats 400000 in
theorem clear_no (p : Option Addr) (w : World) (h : NoTab w p) : Calls Tryd.prog 55 #[.pointer p] w fun e w' => (∃ v, e = .returned v) ∧ w' = w := by
  go_enter Tryd.func55, Tryd.ntmps55
  go_wp2_with (go_at_call 43; refine (made_no p _ h).mono ?_; rintro e w' ⟨rfl, rfl⟩)
  go_end0
  exact ⟨⟨_, rfl⟩, rfl⟩
set_option maxHeartbeats 400000 in
theorem keys_no (p : Option Addr) (w : World) (h : NoTab w p) : Calls Tryd.prog 57 #[.pointer p] w fun e w' => e = .returned (.slice none 0 0) ∧ w' = w := by
  go_enter Tryd.func57, Tryd.ntmps57
  go_wp2_with (go_at_call 59; refine (len_no p _ h).mono ?_; rintro e w' ⟨rfl, rfl⟩)
  go_ret
  exact ⟨rfl, rfl⟩
set_option maxHeartbeats 400000 in
theorem copy_no (p : Option Addr) (w : World) (h : NoTab w p) : Calls Tryd.prog 12 #[.pointer p] w fun e w' => e = .returned (.pointer none) ∧ Below w.heap.size w w' := by
  have hb1 : Below w.heap.size w (w.alloc (.cells #[.pointer p] 23)) := (Below.refl _ w).alloc (Nat.le_refl _) _
  have h1 := h.below hb1
  go_enter Tryd.func12, Tryd.ntmps12
  go_wp2_with (go_at_call 43; refine (made_no p _ h1).mono ?_; rintro e w' ⟨rfl, rfl⟩)
  go_ret
  exact ⟨rfl, hb1⟩

theorem info_entry : (Tryd.prog.info? 85).map (fun i => (i.zero, i.size, i.bytes)) = some (some (.agg #[.int .u64 0, Value.int .u64 0, .pointer none, .pointer none]), 4, 32) := by kernel_rfl
theorem run_kept (n : Nat) (hn : n ≤ 4398046511104) (w : World) : (Instr.makeSlice 93 (.int .i64 0) (.int .i64 n)).run Tryd.prog w =
    .ok (.slice (some ⟨w.heap.size, 0, none⟩) 0 n) (w.alloc (.cells (madeCells #[.int .u64 0, Value.int .u64 0, .pointer none, .pointer none] (n * 4)) 85)) := by
  obtain ⟨i0, hi, hz0, hz1, hz2⟩ := info_parts info_entry
  have h := run_make (P := Tryd.prog) w 93 85 i0 _ Tryd.underlying93 hi hz0 .i64 .i64 0 n (by omega) (by omega) (by rw [hz2]; omega) (by omega)
  rw [h, hz1, Int.toNat_natCast]
  rfl

set_option maxRecDepth 100000 in
set_option maxHeartbeats 1000000 in
theorem all1_no (n : Nat) (hn : 3 ≤ n) (l bx : Nat) (p : Option Addr) (W : World) (hb : W.cell? ⟨bx, 0, none⟩ = some (.pointer p)) (hN : NoTab W p) :
    CallsIn Fence.wide n Tryd.prog 61 #[.func (.yield l) #[] #[], .pointer (some ⟨bx, 0, none⟩)] W fun e W' => (∃ v, e = .returned v) ∧ Below W.heap.size W W' := by
  have hl := len_no p W hN
  have hn1 : 1 ≤ n := by omega
  have hmk : ∀ w : World, (Instr.makeSlice 93 (.int .i64 0) (.int .i64 0)).run Tryd.prog w =
      .ok (.slice (some ⟨w.heap.size, 0, none⟩) 0 0) (w.alloc (.cells #[] 85)) := fun w => by
    have h := run_kept 0 (by omega) w
    rw [show madeCells #[Value.int .u64 0, Value.int .u64 0, .pointer none, .pointer none] (0 * 4) = #[] from by simp [madeCells]] at h
    exact h
  have hlt := World.block_lt_of_cell? _ _ hb
  have hba : ∀ o1 o2, ((W.alloc o1).alloc o2).cell? ⟨bx, 0, none⟩ = some (.pointer p) := fun o1 o2 => by
    rw [World.cell?_alloc_lt _ _ ⟨bx, 0, none⟩ (by simp; exact Nat.lt_succ_of_lt hlt), World.cell?_alloc_lt _ _ ⟨bx, 0, none⟩ hlt, hb]
  refine callsIn_of_wp_marks Tryd.func61 rfl trivial ?_ rfl
  simp only [Tryd.ntmps61, List.size_toArray, List.length_cons, List.length_nil, Nat.reduceAdd, Nat.reduceSub, Array.replicate_succ, Array.replicate_zero, List.push_toArray, List.append_toArray, List.nil_append, List.cons_append]
  gi_wp2_with (first
    | (refine ⟨trivial, ?_⟩; gi_at_call 59; refine (callsIn_wide.2 hl).mono ?_; rintro e w1 ⟨rfl, hw1⟩; replace hw1 := hw1.symm; subst hw1)
    | (refine ⟨trivial, ?_⟩; gi_at_call 44; refine (callsIn_wide.2 (coming_any p _)).mono ?_; rintro e w1 ⟨rfl, rfl⟩))
  clear hba
  have hB2 : Below W.heap.size W (((W.alloc (.cells #[] 85)).alloc (.cells #[.slice (some ⟨W.heap.size, 0, none⟩) 0 0] 93)).alloc (.cells #[.pointer p] 23)) :=
    (((Below.refl _ W).alloc (Nat.le_refl _) _).alloc (by simp) _).alloc (by simp; omega) _
  have c1 := alloc_old (alloc_block (W.alloc (.cells #[] 85)) (.cells #[.slice (some ⟨W.heap.size, 0, none⟩) 0 0] 93)) (.cells #[.pointer p] 23)
  have c2 := alloc_block ((W.alloc (.cells #[] 85)).alloc (.cells #[.slice (some ⟨W.heap.size, 0, none⟩) 0 0] 93)) (.cells #[.pointer p] 23)
  simp only [World.size_alloc] at c1 c2
  have hz2 : (((W.alloc (.cells #[] 85)).alloc (.cells #[.slice (some ⟨W.heap.size, 0, none⟩) 0 0] 93)).alloc (.cells #[.pointer p] 23)).heap.size = W.heap.size + 3 := by simp
  generalize ((W.alloc (.cells #[] 85)).alloc (.cells #[.slice (some ⟨W.heap.size, 0, none⟩) 0 0] 93)).alloc (.cells #[.pointer p] 23) = W2 at *
  have hN2 := hN.below hB2
  refine wpIn_rangeFunc_ownH rfl (by omega) (gf := 82) (lb := #[.pointer (some ⟨W.heap.size + 1 + 1, 0, none⟩)]) rfl trivial (enters_of Tryd.func82 (by kernel_rfl) rfl)
    (coming_no (n - 1) (by omega) (W.heap.size + 1 + 1) p W2 (cell_of_block c2 0) hN2)
    (fun _ _ => trivial) (fun _ _ _ _ _ _ _ _ => trivial) (Below.refl _ _) (fun _ => rfl)
    (fun _ X => X.heap[W.heap.size + 1]? = some (.cells #[.slice (some ⟨W.heap.size, 0, none⟩) 0 0] 93 (0, 0)) ∧ Below W.heap.size W X)
    (fun _ _ _ => False)
    (OwnFrom.and (Go.Own.from (fun s A B row hs hg hr => block_kept hs hg hr) _) (ownFrom_below (Nat.le_refl _) (by omega)))
    (fun _ _ _ _ _ hs _ _ => hs)
    ⟨c1, hB2⟩ (fun _ _ _ => True) (fun _ _ _ _ _ _ _ _ _ => trivial) ?assign ?body ?done ?stop
  case assign =>
    rintro l pre x X K hi hK
    gi_wp2
    exact hK _ _ (KeepsFrom.refl _ _) trivial hi trivial
  case body =>
    rintro l pre x a' X _ _ _ _ hlen
    simp at hlen
  case stop =>
    rintro D c pre X _ _ h _
    exact h.elim
  case done =>
    rintro D ys X hD _ ⟨hc, hB⟩ hK
    have hk0 : X.cell? ⟨W.heap.size + 1, 0, none⟩ = some (.slice (some ⟨W.heap.size, 0, none⟩) 0 0) := cell_of_block hc 0
    gi_wp2
    gi_loopw [27] (fun i wr => i = .int .i64 0 ∧ wr = X) (fun _ _ => 0)
    case atStart => exact ⟨rfl, rfl⟩
    case round =>
      obtain ⟨rfl, rfl⟩ := hrel
      gi_wp2
      refine ⟨by simp, .inl ⟨_, _, rfl, run_takeDeferred hK, ?_⟩⟩
      exact ⟨_, results_none rfl _ _ _, ⟨_, rfl⟩, hB.trans (belowK_b (w := W) (Nat.le_refl _) _ D _ _ (by omega) hK rfl rfl)⟩

/-- The closure of All as an iterator, where there is no table. -/
theorem all_no (n : Nat) (hn : 3 ≤ n) (bx : Nat) (p : Option Addr) (w : World) (hb : w.cell? ⟨bx, 0, none⟩ = some (.pointer p)) (hN : NoTab w p) :
    SeqStopsK Fence.wide n Tryd.prog 61 #[.pointer (some ⟨bx, 0, none⟩)] (fun x : Int × Int => #[.int .u64 x.1, .int .u64 x.2]) (fun _ _ => True) (fun ys => ys = []) (fun _ => False) 0 w :=
  fun l _ _ W hW hJ _ _ h0 => (all1_no n hn l bx p W ((hW.cell (p := ⟨bx, 0, none⟩) (World.block_lt_of_cell? _ _ hb)).trans hb) (hN.below hW)).mono fun _ _ ⟨h1, h2⟩ => ⟨h1, .inl ⟨[], rfl, hJ _ _ _ none h0 (Below.grownNone h2) (fun r e => by cases e)⟩⟩
end Go.Proofs.YtbhocajmcfdffaaDoor.U
