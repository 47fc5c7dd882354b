/-
  The program's iterator (*cells.Row).All and its closure: what it hands on, round by round: the row's words as they were when the loop began. No statement of the seat is proved here.
-/
import Derived.RangeFuncNested
import Derived.RangeFuncBound
import Derived.RangeFuncCalls
import Derived.RangeFuncLeaves
import Derived.Shelf.Abstract
import Derived.Shelf.RegionOpen
import Derived.WalkKit
import Derived.OwnWalkIn
import Derived.TacticsInMore
import Derived.LoopNIn
import Derived.LoopIn
import Derived.Test.YtmffkcbdgpaieaaRowF
namespace Go.Proofs.Ytmffkcbdgpaieaa
open Go.RowKit Go.Shelf
attribute [local go_sem] Oper.semAt_some

/-- From block B on, cells that were there are as they were. -/
structure Above (B : Nat) (W W' : World) : Prop where
  size : W.heap.size ≤ W'.heap.size
  block : ∀ (k : Nat) (c : Array Value) (t : TypeId) (fr : Nat × Nat), B ≤ k → W.heap[k]? = some (.cells c t fr) → W'.heap[k]? = some (.cells c t fr)

theorem Above.trans {B : Nat} {X Y Z : World} (h : Above B X Y) (k : Above B Y Z) : Above B X Z := ⟨Nat.le_trans h.size k.size, fun i c t fr hB hi => k.block i c t fr hB (h.block i c t fr hB hi)⟩
theorem Above.putObj {B : Nat} (W : World) (l : Nat) (o o' : Obj) (hl : W.heap[l]? = some o) (ho : o.isCells = false) : Above B W (W.putObj l o') :=
  ⟨by simp, fun k c t fr _ hk => (World.putObj_heap_other (fun e => by
    subst e
    rw [hk] at hl
    cases hl
    simp [Obj.isCells] at ho)).trans hk⟩
theorem Above.keeps {B : Nat} {S : Nat → Prop} {W W' : World} (h : Keeps S W W') (hS : ∀ k, S k → k < B) : Above B W W' :=
  ⟨h.size, fun k _ _ _ hB hk => (h.block k (lt_of_block hk) (fun hs => by have := hS k hs; omega)).trans hk⟩

theorem alloc_block (w : World) (o : Obj) : (w.alloc o).heap[w.heap.size]? = some o := (MapKept.heap_alloc w o).1
theorem alloc_old {w : World} {k : Nat} {o : Obj} (h : w.heap[k]? = some o) (o' : Obj) : (w.alloc o').heap[k]? = some o := (Below.heap_alloc _ _ _ (lt_of_block h)).trans h
theorem block_kept {A B : World} {row : Option Nat} {k : Nat} {c : Array Value} {t : TypeId} {fr : Nat × Nat} (h : A.heap[k]? = some (.cells c t fr)) (hg : A.grownBy B row) (hr : ∀ r, row = some r → ∃ o : Obj, A.heap[r]? = some o ∧ o.isCells = false) : B.heap[k]? = some (.cells c t fr) :=
  (hg.block k (lt_of_block h) (fun e => by
    obtain ⟨o, ho, hc⟩ := hr k e.symm
    rw [h] at ho
    cases ho
    simp [Obj.isCells] at hc)).trans h

theorem Keeps.grownNone {w w' : World} (h : Keeps (fun _ => False) w w') : w.grownBy w' none := ⟨h.os, h.tape, h.output, h.size, fun k hk _ => h.block k hk (fun f => f)⟩

/-- The words with their addresses. -/
def rounds (ws : List Int) (k : Nat) : List (Nat × Int) := (List.range k).map fun j => (j, ws[j]?.getD 0)
theorem rounds_succ (ws : List Int) (k : Nat) : rounds ws (k + 1) = rounds ws k ++ [(k, ws[k]?.getD 0)] := by simp [rounds, List.range_succ]
theorem rounds_length (ws : List Int) (k : Nat) : (rounds ws k).length = k := by simp [rounds]

/-- A row, or none: its words. -/
def RowOr (W : World) (p : Option Addr) (ws : List Int) : Prop := (NoRow W p ∧ ws = []) ∨ ∃ b c n, p = some ⟨b, 0, none⟩ ∧ RowAt W 74 36 b c ws n

set_option maxHeartbeats 400000 in
theorem words_at (b c : Nat) (ws : List Int) (n : Int) (w : World) (h : RowAt w 74 36 b c ws n) :
    Calls Try.prog 46 #[.pointer (some ⟨b, 0, none⟩)] w fun e w' => e = .returned (.slice (some ⟨w.heap.size, 0, none⟩) ws.length ws.length) ∧ w'.heap[w.heap.size]? = some (.cells (u64s ws) 36 (0, 0)) ∧ w'.heap.size = w.heap.size + 1 ∧ Keeps (fun _ => False) w w' := by
  have c0 := h.cell0
  have hp := h.pos
  have hd : decide (0 < ws.length) = true := by simp; omega
  go_enter Try.func46, Try.ntmps46
  go_wp2_with fail
  refine (made_at b _ ws.length ws.length _ c0).mono ?_
  rintro e w' ⟨rfl, rfl⟩
  go_wp2_with fail
  refine (clone_any _ ws.length ws.length ws _ rfl h.le (Reads.block h.words)).mono ?_
  rintro e w' ⟨rfl, h1, h2, h3⟩
  have H1 : Hid (w'.heap[w'.heap.size - 1]? = some (.cells (u64s ws) 36 (0, 0))) := by rw [h2]; exact h1
  have HZ : Hid (w'.heap.size = _) := h2
  clear h1 h2
  go_wp2_with fail
  go_ret
  refine ⟨rfl, ?_, HZ.out, h3⟩
  have := H1.out
  rw [HZ.out] at this
  exact this

/-- Words, of a row or of none. -/
theorem words_or (p : Option Addr) (ws : List Int) (w : World) (h : RowOr w p ws) :
    Calls Try.prog 46 #[.pointer p] w fun e w' => ∃ s, e = .returned (.slice s ws.length ws.length) ∧ (∀ i, i < ws.length → s = some ⟨w.heap.size, 0, none⟩ ∧ w'.heap[w.heap.size]? = some (.cells (u64s ws) 36 (0, 0))) ∧ Keeps (fun _ => False) w w' := by
  rcases h with ⟨h, rfl⟩ | ⟨b, c, n, rfl, h⟩
  · refine (words_none p w h).mono ?_
    rintro e w' ⟨rfl, rfl⟩
    exact ⟨none, rfl, fun i h => absurd h (by simp), Keeps.refl _ _⟩
  · refine (words_at b c ws n w h).mono ?_
    rintro e w' ⟨rfl, h1, _, h3⟩
    exact ⟨_, rfl, fun _ _ => ⟨rfl, h1⟩, h3⟩

theorem RowOr.le {w : World} {p : Option Addr} {ws : List Int} (h : RowOr w p ws) : ws.length ≤ 65536 := by
  rcases h with ⟨_, rfl⟩ | ⟨b, c, n, rfl, h⟩
  · simp
  · exact h.le

set_option maxRecDepth 100000 in
set_option maxHeartbeats 1000000 in
/-- The closure of All, for every loop body that keeps cells from block B on. -/
theorem all1_in (n : Nat) (hn : 1 ≤ n) (l bx B : Nat) (p : Option Addr) (ws : List Int) (J Jx : List (Nat × Int) → World → Prop) (W : World)
    (hJ : AbidesFrom W.heap.size J)
    (hY : ∀ pre x W1, J pre W1 → pre.length < ws.length → YieldAt Fence.wide (n - 1) Try.prog l #[.int .u64 (x.1 : Nat), .int .u64 x.2] W1 fun e W' =>
      (e = .returned (.bool true) ∧ J (pre ++ [x]) W' ∧ Above B W1 W') ∨ (e = .returned (.bool false) ∧ Jx (pre ++ [x]) W'))
    (hB : B ≤ W.heap.size) (hbx : W.cell? ⟨bx, 0, none⟩ = some (.pointer p)) (hr : RowOr W p ws) (h0 : J [] W) :
    CallsIn Fence.wide n Try.prog 52 #[.func (.yield l) #[] #[], .pointer (some ⟨bx, 0, none⟩)] W fun e W' => (∃ v, e = .returned v) ∧
      ((∃ ys, ys = rounds ws ws.length ∧ J ys W') ∨ (∃ pre, (∃ k, k < ws.length ∧ pre = rounds ws (k + 1)) ∧ Jx pre W')) := by
  have hle := hr.le
  refine callsIn_of_wp Try.func52 rfl trivial ?_ rfl
  simp only [Try.ntmps52, List.size_toArray, List.length_cons, List.length_nil, Nat.reduceAdd, Nat.reduceSub, Array.replicate_succ, Array.replicate_zero, List.push_toArray, List.append_toArray, List.nil_append, List.cons_append]
  gi_wp2_with (refine ⟨trivial, ?_⟩; gi_at_call 46; refine (callsIn_wide.2 (words_or p ws _ hr)).mono ?_; rintro e w1 ⟨s, rfl, hs, hk⟩)
  have hJ1 : J [] w1 := hJ _ _ _ none h0 hk.grownNone (fun r e => by cases e)
  gi_loopw [8] (fun i wr => ∃ k : Nat, k ≤ ws.length ∧ i = .int .i64 k ∧ J (rounds ws k) wr ∧ (0 < ws.length → wr.heap[W.heap.size]? = some (.cells (u64s ws) 36 (0, 0))))
    (fun i _ => ws.length - (intOf i).toNat)
  case atStart => exact ⟨0, Nat.zero_le _, rfl, hJ1, fun h => (hs 0 h).2⟩
  case round =>
    obtain ⟨k, hk, rfl, hJs, hnx⟩ := hrel
    by_cases hlt : k < ws.length
    · obtain ⟨fn, tmps, assign, body, hy, hR⟩ := hY _ (k, ws[k]?.getD 0) wr hJs (by rw [rounds_length]; exact hlt)
      obtain ⟨rfl, _⟩ := hs k hlt
      have hb := hnx (by omega)
      have hcx : wr.cell? ⟨W.heap.size, k, none⟩ = some (.int .u64 (ws[k]?.getD 0)) := by rw [cell_of_block hb, u64s_get ws k hlt]
      dsimp only at hy
      generalize hx : ws[k]?.getD 0 = x at hy hcx hR
      have HX : Hid (ws[k]?.getD 0 = x) := hx
      clear hx
      gi_wp2
      refine hR.mono ?_
      rintro e W3 (⟨rfl, hJ3, hk3⟩ | ⟨rfl, hJx3⟩)
      · gi_wp2
        go_roundw
        case rel => exact ⟨k + 1, by omega, by simp, by rw [rounds_succ, HX.out]; exact hJ3, fun _ => hk3.block _ _ _ _ hB hb⟩
        case measure => simp [intOf]; omega
      · gi_wp2
        refine bodyPost_ret (results_none rfl _ _ _) rfl ?_
        exact ⟨⟨_, rfl⟩, .inr ⟨_, ⟨k, hlt, by rw [rounds_succ, HX.out]⟩, hJx3⟩⟩
    · obtain rfl : k = ws.length := by omega
      gi_wp2
      go_end0
      exact ⟨⟨_, rfl⟩, .inl ⟨_, rfl, hJs⟩⟩

/-- The closure of All as an iterator. -/
theorem all_stops (n : Nat) (hn : 1 ≤ n) (bx B : Nat) (p : Option Addr) (ws : List Int) (w : World) (hB : B ≤ w.heap.size) (hbx : w.cell? ⟨bx, 0, none⟩ = some (.pointer p)) (hr : RowOr w p ws) :
    SeqStopsK Fence.wide n Try.prog 52 #[.pointer (some ⟨bx, 0, none⟩)] (fun x : Nat × Int => #[.int .u64 (x.1 : Nat), .int .u64 x.2]) (Above B) (fun ys => ys = rounds ws ws.length) (fun pre => ∃ k, k < ws.length ∧ pre = rounds ws (k + 1)) ws.length w :=
  fun l J Jx W hW hJ _ hY h0 => all1_in n hn l bx B p ws J Jx W hJ hY (Nat.le_trans hB hW.size) ((hW.cell (p := ⟨bx, 0, none⟩) (World.block_lt_of_cell? _ _ hbx)).trans hbx)
    (by
      rcases hr with ⟨h | ⟨b, rfl, h⟩, rfl⟩ | ⟨b, c, m, rfl, h⟩
      · exact .inl ⟨.inl h, rfl⟩
      · exact .inl ⟨.inr ⟨b, rfl, (hW.cell (p := ⟨b, 0, none⟩) (World.block_lt_of_cell? _ _ h)).trans h⟩, rfl⟩
      · exact .inr ⟨b, c, m, rfl, ⟨(hW.block b h.ltb).trans h.row, (hW.block c h.ltc).trans h.words, h.ne, h.pos, h.le⟩⟩) h0

set_option maxHeartbeats 400000 in
/-- All hands back its closure over the row's pointer, in a box. -/
theorem all_any (p : Option Addr) (w : World) : Calls Try.prog 22 #[.pointer p] w fun e w' => e = .returned (.func (.func 52) #[] #[.pointer (some ⟨w.heap.size, 0, none⟩)]) ∧ w' = w.alloc (.cells #[.pointer p] 25) := by
  go_enter Try.func22, Try.ntmps22
  go_wp2
  go_ret
  exact ⟨rfl, rfl⟩

end Go.Proofs.Ytmffkcbdgpaieaa
