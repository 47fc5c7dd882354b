
/-
  A read log as it lies in memory, and the calls on it. No statement of the seat is proved here.
-/
import Derived.Test.YtmhinalgjfiliaaDoorRedoC
namespace Go.Proofs.YtmhinalgjfiliaaDoor
open Go.RowKit Go.Shelf

structure ReadAt (w : World) (r most : Nat) (es : List (Int × Int)) (v : Value) : Prop where
  box : w.heap[r]? = some (.cells #[.bool true, .int .i64 most, v] 122 (0, 0))
  ents : Row w 44 2 v es.length (entV es)
  fit : es.length ≤ most
  most20 : most ≤ 1048576

section
variable {w w' : World} {r most : Nat} {es : List (Int × Int)} {v : Value}
theorem ReadAt.c0 (h : ReadAt w r most es v) : w.cell? ⟨r, 0, none⟩ = some (.bool true) := by rw [cell_of_block h.box]; rfl
theorem ReadAt.c1 (h : ReadAt w r most es v) : w.cell? ⟨r, 1, none⟩ = some (.int .i64 most) := by rw [cell_of_block h.box]; rfl
theorem ReadAt.c2 (h : ReadAt w r most es v) : w.cell? ⟨r, 2, none⟩ = some v := by rw [cell_of_block h.box]; rfl
theorem ReadAt.kept {S : Nat → Prop} (h : ReadAt w r most es v) (k : Keeps S w w') (hr : ¬ S r) (hS : ∀ g, v.ownBlock = some g → ¬ S g) : ReadAt w' r most es v :=
  ⟨k.old h.box hr, h.ents.kept k hS, h.fit, h.most20⟩
theorem ReadAt.like {a : World} (h : ReadAt w r most es v) (l : Like a w) : ReadAt a r most es v :=
  h.kept (S := fun _ => False) (l.keeps (Keeps.refl _ _)) (fun f => f) (fun _ _ f => f)
theorem ReadAt.ner (h : ReadAt w r most es v) : v.ownBlock ≠ some r := fun e => by
  obtain ⟨c, hc⟩ := h.ents.kind e
  exact absurd (kind_ne hc h.box) (by decide)
end

theorem reads_there (r : Nat) (w : World) (h : w.cell? ⟨r, 0, none⟩ = some (.bool true)) : Calls Tryd.prog 68 #[.pointer (some ⟨r, 0, none⟩)] w fun e w' => e = .returned (.bool true) ∧ w' = w := by
  go_enter Tryd.func68, Tryd.ntmps68
  go_wp2_with fail
  go_ret
  exact ⟨rfl, rfl⟩
set_option maxHeartbeats 400000 in
theorem reads_new (most : Nat) (hm : most ≤ 1048576) (w : World) :
    Calls Tryd.prog 46 #[.int .i64 most] w fun e w' => e = .returned (.tuple #[.pointer (some ⟨w.heap.size, 0, none⟩), .int .i64 0]) ∧ ReadAt w' w.heap.size most [] (.slice none 0 0) ∧ Keeps (fun _ => False) w w' := by
  have ht := mayTake_yes most w (by omega) (by omega)
  have hb := alloc_block w (.cells #[.bool true, .int .i64 most, .slice none 0 0] 122 (0, 0))
  have hend : Hid (ReadAt (w.alloc (.cells #[.bool true, .int .i64 most, .slice none 0 0] 122 (0, 0))) w.heap.size most [] (.slice none 0 0) ∧ Keeps (fun _ => False) w (w.alloc (.cells #[.bool true, .int .i64 most, .slice none 0 0] 122 (0, 0)))) :=
    ⟨⟨hb, row_nil _ _ _, by simp, hm⟩, (Keeps.refl _ w).alloc _⟩
  clear hb
  go_enter Tryd.func46, Tryd.ntmps46
  go_wp2_with (first | (go_at_call 66; refine ht.mono ?_; rintro e w' ⟨rfl, hw'⟩; replace hw' := hw'.symm; subst hw'))
  go_ret2
  exact ⟨rfl, hend.out⟩
theorem reads_new_no (most : Int) (hm : most < 0 ∨ 1048576 < most) (w : World) :
    Calls Tryd.prog 46 #[.int .i64 most] w fun e w' => e = .returned (.tuple #[.pointer none, .int .i64 2]) ∧ w' = w := by
  have ht := mayTake_no most w hm
  go_enter Tryd.func46, Tryd.ntmps46
  go_wp2_with (first | (go_at_call 66; refine ht.mono ?_; rintro e w' ⟨rfl, hw'⟩; replace hw' := hw'.symm; subst hw'))
  go_ret2
  exact ⟨rfl, rfl⟩

/-- What Add leaves alone: all but the log's own block and what lies behind its entries. -/
def AddKeeps (r : Nat) (v v' : Value) (n : Nat) (w w' : World) : Prop :=
  (∃ g, v'.ownBlock = some g ∧ w.heap.size ≤ g ∧ Keeps (fun k => k = r) w w') ∨
  (∃ g c0, v = .slice (some ⟨g, 0, none⟩) n c0 ∧ n < c0 ∧ v' = .slice (some ⟨g, 0, none⟩) (n + 1) c0 ∧ (∀ j, j < n * 2 → w'.cell? ⟨g, j, none⟩ = w.cell? ⟨g, j, none⟩) ∧ Keeps (fun k => k = r ∨ k = g) w w')

set_option maxRecDepth 100000 in
set_option maxHeartbeats 400000 in
theorem reads_add (r most : Nat) (es : List (Int × Int)) (v : Value) (a x : Int) (w : World) (h : ReadAt w r most es v) (hm : es.length < most) :
    Calls Tryd.prog 48 #[.pointer (some ⟨r, 0, none⟩), .int .u64 a, .int .u64 x] w fun e w' => e = .returned (.int .i64 0) ∧ ∃ v', ReadAt w' r most (es ++ [(a, x)]) v' ∧ AddKeeps r v v' es.length w w' := by
  have ht := reads_there r w h.c0
  have c1 := h.c1
  have c2 := h.c2
  have hes : es.length ≤ 1048576 := Nat.le_trans h.fit h.most20
  have hm' : ¬ ((es.length : Int) ≥ (most : Int)) := by omega
  have HW : Hid (∀ m, ∃ g cap w1, Hid ((Builtin.append_ #[23, 23] 23 #[v, .slice (some ⟨w.heap.size, 0, none⟩) 1 1]).run Tryd.prog ((w.drewN m).alloc (.cells #[.int .u64 a, .int .u64 x] 44)) = .ok (.slice (some ⟨g, 0, none⟩) (es.length + 1) cap) w1) ∧
      w1.cell? ⟨r, 2, none⟩ = some v ∧ w1.frozen? ⟨r, 2, none⟩ = false ∧
      Hid (∃ v', ReadAt (w1.setCell ⟨r, 2, none⟩ (.slice (some ⟨g, 0, none⟩) (es.length + 1) cap)) r most (es ++ [(a, x)]) v' ∧ AddKeeps r v v' es.length w (w1.setCell ⟨r, 2, none⟩ (.slice (some ⟨g, 0, none⟩) (es.length + 1) cap)))) := by
    intro m
    have hlm := like_drewN w m
    obtain ⟨g, cap, w1, hr, hrow, hk⟩ := append_cell a x (h.ents.like hlm) (by omega)
    have hn := h.ner
    have hb : w1.heap[r]? = some (.cells #[.bool true, .int .i64 most, v] 122 (0, 0)) := by
      rcases hk with ⟨_, hk⟩ | ⟨q1, _, _, hk⟩
      · exact hk.old (by rw [hlm.heap]; exact h.box) (fun f => f)
      · exact hk.old (by rw [hlm.heap]; exact h.box) (fun e => hn (e ▸ q1))
    have hgr : g ≠ r := by
      rcases hk with ⟨hk, _⟩ | ⟨q1, _, _, hk⟩
      · have := lt_of_block h.box
        rw [hlm.heap] at hk
        omega
      · exact fun e => hn (e ▸ q1)
    have k2 : ∀ v, Keeps (fun k => k = r) w1 (w1.setCell ⟨r, 2, none⟩ v) := fun v => (Keeps.refl (fun k => k = r) w1).setCell (p := ⟨r, 2, none⟩) (.inr rfl) v
    refine ⟨g, cap, w1, hr, cell_of_block hb 2, frozen_of_block hb 2, .slice (some ⟨g, 0, none⟩) (es.length + 1) cap, ⟨block_set hb 2 _, hrow.kept (k2 _) (fun q hq => by simp [Value.ownBlock] at hq; omega), by simp; omega, h.most20⟩, ?_⟩
    rcases hk with ⟨q1, hk⟩ | ⟨q1, ⟨c0, q2, q3, rfl⟩, q4, hk⟩
    · have hk' : Keeps (fun _ => False) w w1 := ⟨hk.os, hk.tape, hk.output, by have := hk.size; rwa [hlm.heap] at this, fun i hi hs => by have := hk.block i (by rw [hlm.heap]; exact hi) hs; rwa [hlm.heap] at this⟩
      refine .inl ⟨g, rfl, by rwa [hlm.heap] at q1, (hk'.mono (fun _ _ f => f.elim)).trans (k2 _)⟩
    · have hk' : Keeps (fun k => k = g) w w1 := ⟨hk.os, hk.tape, hk.output, by have := hk.size; rwa [hlm.heap] at this, fun i hi hs => by have := hk.block i (by rw [hlm.heap]; exact hi) hs; rwa [hlm.heap] at this⟩
      refine .inr ⟨g, cap, q2, q3, rfl, fun j hj => ?_, (hk'.mono (T := fun k => k = r ∨ k = g) (fun k _ e => .inr e)).trans ((k2 _).mono (fun k _ e => .inl e))⟩
      rw [show (w1.setCell ⟨r, 2, none⟩ (.slice (some ⟨g, 0, none⟩) (es.length + 1) cap)).cell? ⟨g, j, none⟩ = w1.cell? ⟨g, j, none⟩ from World.cell?_setCell_far w1 ⟨r, 2, none⟩ ⟨g, j, none⟩ _ (Ne.symm hgr), q4 j hj]
      exact World.cell?_of_block (by rw [hlm.heap])
  obtain ⟨a1, c0, hv, hc1, hc2⟩ := h.ents.form
  have HV : Hid (v = .slice a1 es.length c0) := hv
  rw [hv] at c2
  clear h hv
  go_enter Tryd.func48, Tryd.ntmps48
  go_wp2_with (first | (go_at_call 68; refine ht.mono ?_; rintro e w' ⟨rfl, hw'⟩; replace hw' := hw'.symm; subst hw'))
  go_quiet (fail)
  obtain ⟨g, cap, w1, HR, f1, f2, hend⟩ := HW.out nq
  rw [HV.out] at HR f1
  clear HW
  go_wp2_with (at_builtin; refine wpList_append_run rfl _ _ 23 rfl rfl rfl HR.out ?_; clear HR)
  go_ret
  exact ⟨rfl, hend.out⟩

set_option maxHeartbeats 400000 in
theorem reads_add_full (r most : Nat) (es : List (Int × Int)) (v : Value) (a x : Int) (w : World) (h : ReadAt w r most es v) (hm : most ≤ es.length) :
    Calls Tryd.prog 48 #[.pointer (some ⟨r, 0, none⟩), .int .u64 a, .int .u64 x] w fun e w' => e = .returned (.int .i64 5) ∧ Like w' w := by
  have ht := reads_there r w h.c0
  have c1 := h.c1
  have c2 := h.c2
  have hes : es.length ≤ 1048576 := Nat.le_trans h.fit h.most20
  have hm' : (es.length : Int) ≥ (most : Int) := by omega
  obtain ⟨a1, c0, rfl, hc1, hc2⟩ := h.ents.form
  clear h
  go_enter Tryd.func48, Tryd.ntmps48
  go_wp2_with (first | (go_at_call 68; refine ht.mono ?_; rintro e w' ⟨rfl, hw'⟩; replace hw' := hw'.symm; subst hw'))
  go_quiet (fail)
  go_wp2_with fail
  go_ret
  exact ⟨rfl, ⟨rfl, rfl, rfl, rfl⟩⟩

/-- s[:n:n] of entries. -/
theorem run_shut (W : World) (a : Option Addr) (n c : Nat) (m : Nat) (hm : m ≤ c) : (Instr.slice 23 (.slice a n c) none (some (.int .i64 m)) (some (.int .i64 m))).run Tryd.prog W = .ok (.slice a m m) W := by
  obtain ⟨i0, hi, hz0, hz1, hzb⟩ := info_parts info_cell
  have h1 : (m : Int) ≤ (c : Int) := by omega
  have h2 : a.map (·.add 0) = a := by
    cases a with
    | none => rfl
    | some x => simp [Addr.add]
  simp [Instr.slice, run_underlying Tryd.underlying23, Instr.sliceBounds, run_sliceBound, sizeOf, typeInfo, hi, h1, h2]
set_option maxHeartbeats 400000 in
theorem reads_handed (r n c : Nat) (a : Option Addr) (w : World) (h : w.cell? ⟨r, 2, none⟩ = some (.slice a n c)) (hn : n ≤ c) : Calls Tryd.prog 53 #[.pointer (some ⟨r, 0, none⟩)] w fun e w' => e = .returned (.slice a n n) ∧ w' = w := by
  have hs := run_shut w a n c n hn
  go_enter Tryd.func53, Tryd.ntmps53
  go_wp2_with fail
  go_ret
  exact ⟨rfl, rfl⟩
set_option maxHeartbeats 400000 in
theorem reads_len (r most : Nat) (es : List (Int × Int)) (v : Value) (w : World) (h : ReadAt w r most es v) : Calls Tryd.prog 34 #[.pointer (some ⟨r, 0, none⟩)] w fun e w' => e = .returned (.int .i64 es.length) ∧ w' = w := by
  obtain ⟨a1, c0, rfl, hc1, hc2⟩ := h.ents.form
  have hes : es.length ≤ 1048576 := Nat.le_trans h.fit h.most20
  have hh := reads_handed r _ _ _ w h.c2 hc1
  go_enter Tryd.func34, Tryd.ntmps34
  go_wp2_with (first | (go_at_call 53; refine hh.mono ?_; rintro e w' ⟨rfl, hw'⟩; replace hw' := hw'.symm; subst hw'))
  go_ret
  exact ⟨rfl, rfl⟩
end Go.Proofs.YtmhinalgjfiliaaDoor
