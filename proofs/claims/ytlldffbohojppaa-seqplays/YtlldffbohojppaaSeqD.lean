
/- Walks: the clock's Copy; the document's clock (parleyref06). No statement of the seat is proved here. -/
import Derived.Test.YtlldffbohojppaaSeqN
import Derived.Deep.RegionHeld3
namespace Go.Proofs.Ytlldffbohojppaa
open Go.RowKit

/-- Two worlds that differ in what was drawn alone. -/
structure Like (a b : World) : Prop where
  heap : a.heap = b.heap
  os : a.os = b.os
  tape : a.tape = b.tape
  output : a.output = b.output
theorem Like.refl (a : World) : Like a a := ⟨rfl, rfl, rfl, rfl⟩
theorem Like.keeps {S : Nat → Prop} {w a b : World} (h : Like a b) (k : Keeps S w b) : Keeps S w a :=
  ⟨h.os.trans k.os, h.tape.trans k.tape, h.output.trans k.output, by rw [h.heap]; exact k.size, fun i hi hs => by rw [h.heap]; exact k.block i hi hs⟩
theorem Like.keeps' {S : Nat → Prop} {a b : World} (h : Like a b) : Keeps S b a := h.keeps (Keeps.refl _ _)
theorem Like.row {a w : World} {t e : TypeId} {b c : Nat} {ws : List Int} {n : Int} (h : Like a w) (r : RowAt w t e b c ws n) : RowAt a t e b c ws n :=
  ⟨by rw [h.heap]; exact r.row, by rw [h.heap]; exact r.words, r.ne, r.pos, r.le⟩
theorem Like.clk {a w : World} {p b c : Nat} {x st : Int} (h : Like a w) (k : ClkAt w p b c x st) : ClkAt a p b c x st := by
  obtain ⟨n, r⟩ := k.row
  exact ⟨by rw [h.heap]; exact k.box, ⟨n, h.row r⟩, k.nb, k.nc, k.lo, k.hi⟩

set_option maxHeartbeats 800000 in
theorem ccopy_at (p b c : Nat) (x st : Int) (w : World) (h : ClkAt w p b c x st) :
    Calls Try.prog 9 #[.pointer (some ⟨p, 0, none⟩)] w fun e w' => ∃ p' b' c', e = .returned (.pointer (some ⟨p', 0, none⟩)) ∧ ClkAt w' p' b' c' x st ∧ Keeps (fun _ => False) w w' ∧ w.heap.size ≤ p' ∧ w.heap.size ≤ b' ∧ w.heap.size ≤ c' := by
  have c0 := h.cell0
  have c1 := h.cell1
  have hcp : ∀ W0, Like W0 w → Calls Try.prog 23 #[.pointer (some ⟨b, 0, none⟩)] W0 fun e w1 => e = .returned (.pointer (some ⟨w.heap.size + 1, 0, none⟩)) ∧ (w1.cell? ⟨p, 0, none⟩ = some (.pointer (some ⟨b, 0, none⟩)) ∧ w1.cell? ⟨p, 1, none⟩ = some (.int .i64 st)) ∧ Hid (RowAt w1 68 22 (w.heap.size + 1) w.heap.size [x] 0 ∧ Keeps (fun _ => False) w w1) := fun W0 hl => by
    obtain ⟨n, r⟩ := h.row
    refine (copy_at b c [x] n W0 (hl.row r)).mono ?_
    rintro e w1 ⟨rfl, r1, k1⟩
    rw [hl.heap] at r1 ⊢
    have k2 : Keeps (fun _ => False) w w1 := hl.keeps'.trans k1
    have h2 := h.kept k2 (fun _ _ f => f)
    exact ⟨rfl, ⟨h2.cell0, h2.cell1⟩, r1, k2⟩
  have hlo := h.lo
  have hhi := h.hi
  clear h
  go_enter Try.func9, Try.ntmps9
  go_wp2_with fail
  refine (cmade_at p b _ c0).mono ?_
  rintro e w' ⟨rfl, rfl⟩
  go_wp2_with fail
  go_region_held3 (fun W => W.cell? ⟨p, 0, none⟩ = some (.pointer (some ⟨b, 0, none⟩)) ∧ W.cell? ⟨p, 1, none⟩ = some (.int .i64 st)) (first | assumption | (exact ⟨c0, c1⟩) | go_keep) ((go_at_call 23; refine (hcp _ (by exact ⟨rfl, rfl, rfl, rfl⟩)).mono ?_; rintro e w4 ⟨rfl, hS, hH⟩))
  obtain ⟨r4, k4⟩ := hH.out
  have sz := k4.size
  have lb := r4.ltb
  have lc := r4.ltc
  clear hcp hH hS
  go_wp2_with fail
  go_ret
  refine ⟨_, _, _, rfl, ⟨(MapKept.heap_alloc w4 _).1, ⟨0, r4.alloc _⟩, by omega, by omega, hlo, hhi⟩, k4.alloc _, by omega, by omega, by omega⟩

/-- A block in which two cells from o on are a word and a count. -/
structure Blk (o : Nat) (blk : Int → Int → Array Value) : Prop where
  word : ∀ x st, (blk x st)[o]? = some (.int .u64 x)
  count : ∀ x st, (blk x st)[o + 1]? = some (.int .i64 st)
  setw : ∀ x st y, (blk x st).setIfInBounds o (.int .u64 y) = blk y st
  setc : ∀ x st n, (blk x st).setIfInBounds (o + 1) (.int .i64 n) = blk x n

/-- The document's clock, from cell o of block r on. -/
structure RefAt (w : World) (t : TypeId) (r o : Nat) (blk : Int → Int → Array Value) (x st : Int) : Prop where
  at_ : w.heap[r]? = some (.cells (blk x st) t (0, 0))
  blk : Blk o blk

section
variable {w w' : World} {t : TypeId} {r o : Nat} {blk : Int → Int → Array Value} {x st : Int}
theorem RefAt.cell0 (h : RefAt w t r o blk x st) : w.cell? ⟨r, o, none⟩ = some (.int .u64 x) := by rw [cell_of_block h.at_]; exact h.blk.word x st
theorem RefAt.cell1 (h : RefAt w t r o blk x st) : w.cell? ⟨r, o + 1, none⟩ = some (.int .i64 st) := by rw [cell_of_block h.at_]; exact h.blk.count x st
theorem RefAt.frozen (h : RefAt w t r o blk x st) (i : Nat) : w.frozen? ⟨r, i, none⟩ = false := frozen_of_block h.at_ i
theorem RefAt.lt (h : RefAt w t r o blk x st) : r < w.heap.size := lt_of_block h.at_
theorem RefAt.setw (h : RefAt w t r o blk x st) (y : Int) : RefAt (w.setCell ⟨r, o, none⟩ (.int .u64 y)) t r o blk y st := ⟨by rw [block_set h.at_, h.blk.setw], h.blk⟩
theorem RefAt.setc (h : RefAt w t r o blk x st) (n : Int) : RefAt (w.setCell ⟨r, o + 1, none⟩ (.int .i64 n)) t r o blk x n := ⟨by rw [block_set h.at_, h.blk.setc], h.blk⟩
theorem RefAt.kept {S : Nat → Prop} (h : RefAt w t r o blk x st) (k : Keeps S w w') (hs : ¬ S r) : RefAt w' t r o blk x st := ⟨(k.block r h.lt hs).trans h.at_, h.blk⟩
end
theorem Like.ref {a w : World} {t : TypeId} {r o : Nat} {blk : Int → Int → Array Value} {x st : Int} (h : Like a w) (k : RefAt w t r o blk x st) : RefAt a t r o blk x st := ⟨by rw [h.heap]; exact k.at_, k.blk⟩
theorem keeps_ref {w : World} {r i : Nat} (v : Value) : Keeps (fun k => k = r) w (w.setCell ⟨r, i, none⟩ v) := (Keeps.refl (fun k => k = r) w).setCell (p := ⟨r, i, none⟩) (.inr rfl) v
theorem keeps_ref2 {w : World} {r i j : Nat} (v u : Value) : Keeps (fun k => k = r) w ((w.setCell ⟨r, i, none⟩ v).setCell ⟨r, j, none⟩ u) := (keeps_ref v).setCell (p := ⟨r, j, none⟩) (.inr rfl) u

set_option maxHeartbeats 400000 in
theorem ropen_any (x : Int) (h0 : 0 ≤ x) (w : World) : Calls Try.prog 34 #[.int .u64 x] w fun e w' => e = .returned (.bool (decide (x % 2 = 0))) ∧ w' = w := by
  go_enter Try.func34, Try.ntmps34
  go_wp2
  go_ret
  refine ⟨?_, rfl⟩
  by_cases h : x % 2 = 0 <;> simp [h]

set_option maxHeartbeats 400000 in
theorem rload_at (t : TypeId) (r o : Nat) (blk : Int → Int → Array Value) (x st : Int) (w : World) (h : RefAt w t r o blk x st) :
    Calls Try.prog 24 #[.pointer (some ⟨r, o, none⟩)] w fun e w' => e = .returned (.int .u64 x) ∧ RefAt w' t r o blk x (inc st) ∧ Keeps (fun k => k = r) w w' := by
  have c1 := h.cell1
  have f1 := h.frozen (o + 1)
  have h2 := h.setc (inc st)
  have d0 := h2.cell0
  clear h
  unfold inc at d0 h2 ⊢
  go_enter Try.func24, Try.ntmps24
  go_wp2
  go_ret
  exact ⟨rfl, h2, keeps_ref _⟩

set_option maxHeartbeats 400000 in
theorem rheld_at (t : TypeId) (r o : Nat) (blk : Int → Int → Array Value) (x st s : Int) (w : World) (h : RefAt w t r o blk x st) (hs : 0 ≤ s) :
    Calls Try.prog 35 #[.pointer (some ⟨r, o, none⟩), .int .u64 s] w fun e w' => e = .returned (.bool (turns x s (upw s 1))) ∧ w' = w := by
  have c0 := h.cell0
  clear h
  have ho := ropen_any s hs
  unfold turns upw
  cases hd : decide (s % 2 = 0)
  · rw [hd] at ho
    go_enter Try.func35, Try.ntmps35
    go_wp2_with (go_at_call 34; refine (ho _).mono ?_; rintro e w' ⟨rfl, rfl⟩)
    go_ret
    exact ⟨rfl, rfl⟩
  · rw [hd] at ho
    go_enter Try.func35, Try.ntmps35
    go_wp2_with (go_at_call 34; refine (ho _).mono ?_; rintro e w' ⟨rfl, rfl⟩)
    go_ret
    exact ⟨rfl, rfl⟩

set_option maxHeartbeats 400000 in
theorem rtake_at (t : TypeId) (r o : Nat) (blk : Int → Int → Array Value) (x st s : Int) (w : World) (h : RefAt w t r o blk x st) (hs : 0 ≤ s) :
    Calls Try.prog 25 #[.pointer (some ⟨r, o, none⟩), .int .u64 s] w fun e w' => e = .returned (.bool (turns x s s)) ∧ RefAt w' t r o blk (if turns x s s then upw s 1 else x) (inc st) ∧ Keeps (fun k => k = r) w w' := by
  have c1 := h.cell1
  have f1 := h.frozen (o + 1)
  have h2 := h.setc (inc st)
  have d0 := h2.cell0
  have e0 := h2.frozen o
  have h3 := h2.setw (upw s 1)
  clear h
  have ho := ropen_any s hs
  unfold inc upw at *
  unfold turns
  cases hd : decide (s % 2 = 0)
  · rw [hd] at ho
    go_enter Try.func25, Try.ntmps25
    go_wp2_with (go_at_call 34; refine (ho _).mono ?_; rintro e w' ⟨rfl, rfl⟩)
    go_ret
    exact ⟨rfl, h2, keeps_ref _⟩
  · rw [hd] at ho
    cases hb : (x == s)
    · have hb' : (x != s) = true := by simp [bne, hb]
      go_enter Try.func25, Try.ntmps25
      go_wp2_with (go_at_call 34; refine (ho _).mono ?_; rintro e w' ⟨rfl, rfl⟩)
      go_ret
      exact ⟨rfl, h2, keeps_ref _⟩
    · have hb' : (x != s) = false := by simp [bne, hb]
      go_enter Try.func25, Try.ntmps25
      go_wp2_with (go_at_call 34; refine (ho _).mono ?_; rintro e w' ⟨rfl, rfl⟩)
      go_ret
      exact ⟨rfl, h3, keeps_ref2 _ _⟩

set_option maxHeartbeats 400000 in
theorem rleave_at (t : TypeId) (r o : Nat) (blk : Int → Int → Array Value) (x st s : Int) (w : World) (h : RefAt w t r o blk x st) (hs : 0 ≤ s) :
    Calls Try.prog 26 #[.pointer (some ⟨r, o, none⟩), .int .u64 s] w fun e w' => e = .returned (.int .i64 (if turns x s (upw s 1) then 0 else 160)) ∧ RefAt w' t r o blk (if turns x s (upw s 1) then upw s 2 else x) (inc st) ∧ Keeps (fun k => k = r) w w' := by
  have c1 := h.cell1
  have f1 := h.frozen (o + 1)
  have h2 := h.setc (inc st)
  have d0 := h2.cell0
  have e0 := h2.frozen o
  have h3 := h2.setw (upw s 2)
  have ho := rheld_at t r o blk x (inc st) s _ h2 hs
  clear h
  generalize turns x s (upw s 1) = q at ho ⊢
  unfold inc at *
  try unfold upw at h3 ⊢
  cases q
  · rw [if_neg (by decide), if_neg (by decide)]
    go_enter Try.func26, Try.ntmps26
    go_wp2_with (go_at_call 35; refine ho.mono ?_; rintro e w' ⟨rfl, rfl⟩)
    go_ret
    exact ⟨rfl, h2, keeps_ref _⟩
  · rw [if_pos rfl, if_pos rfl]
    go_enter Try.func26, Try.ntmps26
    go_wp2_with (go_at_call 35; refine ho.mono ?_; rintro e w' ⟨rfl, rfl⟩)
    go_ret
    exact ⟨rfl, h3, keeps_ref2 _ _⟩

set_option maxHeartbeats 400000 in
theorem rback_at (t : TypeId) (r o : Nat) (blk : Int → Int → Array Value) (x st s : Int) (w : World) (h : RefAt w t r o blk x st) (hs : 0 ≤ s) :
    Calls Try.prog 27 #[.pointer (some ⟨r, o, none⟩), .int .u64 s] w fun e w' => e = .returned (.int .i64 (if turns x s (upw s 1) then 0 else 160)) ∧ RefAt w' t r o blk (if turns x s (upw s 1) then s else x) (inc st) ∧ Keeps (fun k => k = r) w w' := by
  have c1 := h.cell1
  have f1 := h.frozen (o + 1)
  have h2 := h.setc (inc st)
  have d0 := h2.cell0
  have e0 := h2.frozen o
  have h3 := h2.setw (s)
  have ho := rheld_at t r o blk x (inc st) s _ h2 hs
  clear h
  generalize turns x s (upw s 1) = q at ho ⊢
  unfold inc at *
  try unfold upw at h3 ⊢
  cases q
  · rw [if_neg (by decide), if_neg (by decide)]
    go_enter Try.func27, Try.ntmps27
    go_wp2_with (go_at_call 35; refine ho.mono ?_; rintro e w' ⟨rfl, rfl⟩)
    go_ret
    exact ⟨rfl, h2, keeps_ref _⟩
  · rw [if_pos rfl, if_pos rfl]
    go_enter Try.func27, Try.ntmps27
    go_wp2_with (go_at_call 35; refine ho.mono ?_; rintro e w' ⟨rfl, rfl⟩)
    go_ret
    exact ⟨rfl, h3, keeps_ref2 _ _⟩

end Go.Proofs.Ytlldffbohojppaa
