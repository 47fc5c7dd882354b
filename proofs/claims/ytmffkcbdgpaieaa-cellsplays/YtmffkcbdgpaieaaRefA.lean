/-
  Rows of the document's own answer (package parleyref01) in memory, and walks of its Len, Has, asked, Load, Store, Swap, Add, Accesses, New, Of, Copy, Words. No statement of the seat is proved here.
-/
import Derived.Test.YtmffkcbdgpaieaaMeansC
namespace Go.Proofs.Ytmffkcbdgpaieaa
open Go.RowKit

/-- Words as cells, with what lies behind them. -/
def refCells (ws : List Int) (rest : List Value) : Array Value := (ws.map (Value.int .u64) ++ rest).toArray
theorem refCells_get (ws : List Int) (rest : List Value) (i : Nat) (h : i < ws.length) : (refCells ws rest)[i]? = some (.int .u64 (ws[i]?.getD 0)) := by
  unfold refCells
  rw [List.getElem?_toArray, List.getElem?_append_left (by simpa using h)]
  simp [h]
theorem refCells_set (ws : List Int) (rest : List Value) (i : Nat) (v : Int) (h : i < ws.length) : (refCells ws rest).setIfInBounds i (.int .u64 v) = refCells (ws.set i v) rest := by
  unfold refCells
  rw [List.setIfInBounds_toArray, List.set_append_left _ _ (by simpa using h), List.map_set]

/-- A row of the document's, in block b, its words in block c. -/
structure RefAt (w : World) (b c cap : Nat) (rest : List Value) (ws : List Int) (n : Int) : Prop where
  row : w.heap[b]? = some (.cells #[.slice (some ⟨c, 0, none⟩) ws.length cap, .int .u64 n] 55 (0, 0))
  words : w.heap[c]? = some (.cells (refCells ws rest) 36 (0, 0))
  ne : b ≠ c
  pos : 1 ≤ ws.length
  le : ws.length ≤ 65536
  cap : ws.length ≤ cap

section
variable {w w' : World} {b c cap : Nat} {rest : List Value} {ws : List Int} {n : Int}
theorem RefAt.cell0 (h : RefAt w b c cap rest ws n) : w.cell? ⟨b, 0, none⟩ = some (.slice (some ⟨c, 0, none⟩) ws.length cap) := by rw [cell_of_block h.row]; rfl
theorem RefAt.cell1 (h : RefAt w b c cap rest ws n) : w.cell? ⟨b, 1, none⟩ = some (.int .u64 n) := by rw [cell_of_block h.row]; rfl
theorem RefAt.frozen (h : RefAt w b c cap rest ws n) (i : Nat) : w.frozen? ⟨b, i, none⟩ = false := frozen_of_block h.row i
theorem RefAt.wcell (h : RefAt w b c cap rest ws n) (i : Nat) (hi : i < ws.length) : w.cell? ⟨c, i, none⟩ = some (.int .u64 (ws[i]?.getD 0)) := by rw [cell_of_block h.words, refCells_get ws rest i hi]
theorem RefAt.wfrozen (h : RefAt w b c cap rest ws n) (i : Nat) : w.frozen? ⟨c, i, none⟩ = false := frozen_of_block h.words i
theorem RefAt.ltb (h : RefAt w b c cap rest ws n) : b < w.heap.size := lt_of_block h.row
theorem RefAt.ltc (h : RefAt w b c cap rest ws n) : c < w.heap.size := lt_of_block h.words
theorem RefAt.kept {S : Nat → Prop} (h : RefAt w b c cap rest ws n) (k : Keeps S w w') (hb : ¬ S b) (hc : ¬ S c) : RefAt w' b c cap rest ws n :=
  ⟨(k.block b h.ltb hb).trans h.row, (k.block c h.ltc hc).trans h.words, h.ne, h.pos, h.le, h.cap⟩
theorem RefAt.below (h : RefAt w b c cap rest ws n) (hb : Below w.heap.size w w') : RefAt w' b c cap rest ws n :=
  ⟨(hb.block b h.ltb).trans h.row, (hb.block c h.ltc).trans h.words, h.ne, h.pos, h.le, h.cap⟩
theorem RefAt.count (h : RefAt w b c cap rest ws n) (m : Int) : RefAt (w.setCell ⟨b, 1, none⟩ (.int .u64 m)) b c cap rest ws m :=
  ⟨block_set h.row 1 _, (Below.heap_setCell _ _ _ _ (Ne.symm h.ne)).trans h.words, h.ne, h.pos, h.le, h.cap⟩
theorem RefAt.store (h : RefAt w b c cap rest ws n) (i : Nat) (v : Int) (hi : i < ws.length) : RefAt (w.setCell ⟨c, i, none⟩ (.int .u64 v)) b c cap rest (ws.set i v) n :=
  ⟨by rw [List.length_set]; exact (Below.heap_setCell _ _ _ _ h.ne).trans h.row, by rw [block_set h.words i (.int .u64 v), refCells_set _ _ _ _ hi], h.ne, by rw [List.length_set]; exact h.pos, by rw [List.length_set]; exact h.le, by rw [List.length_set]; exact h.cap⟩
theorem RefAt.drew (h : RefAt w b c cap rest ws n) : RefAt w.drew b c cap rest ws n := ⟨h.row, h.words, h.ne, h.pos, h.le, h.cap⟩
theorem RefAt.drewN (h : RefAt w b c cap rest ws n) (m : Nat) : RefAt (w.drewN m) b c cap rest ws n := ⟨h.row, h.words, h.ne, h.pos, h.le, h.cap⟩
theorem RefAt.reads (h : RefAt w b c cap rest ws n) : Reads w (some ⟨c, 0, none⟩) ws := fun i hi => ⟨_, rfl, by rw [addr_add, Nat.zero_add, h.wcell i hi]⟩
end

set_option maxHeartbeats 400000 in
theorem rlen_nil (w : World) : Calls Try.prog 23 #[.pointer none] w fun e w' => e = .returned (.int .i64 0) ∧ w' = w := by
  go_enter Try.func23, Try.ntmps23
  go_wp2
  go_ret
  exact ⟨rfl, rfl⟩
set_option maxHeartbeats 400000 in
theorem rlen_at (b : Nat) (s : Option Addr) (l cap : Nat) (w : World) (h0 : w.cell? ⟨b, 0, none⟩ = some (.slice s l cap)) :
    Calls Try.prog 23 #[.pointer (some ⟨b, 0, none⟩)] w fun e w' => e = .returned (.int .i64 l) ∧ w' = w := by
  go_enter Try.func23, Try.ntmps23
  go_wp2
  go_ret
  exact ⟨rfl, rfl⟩
set_option maxHeartbeats 400000 in
theorem rhas_nil (a : Int) (h : 0 ≤ a) (w : World) : Calls Try.prog 50 #[.pointer none, .int .u64 a] w fun e w' => e = .returned (.bool false) ∧ w' = w := by
  go_enter Try.func50, Try.ntmps50
  go_wp2_with (go_at_call 23; refine (rlen_nil _).mono ?_; rintro e w' ⟨rfl, rfl⟩)
  go_ret
  exact ⟨by simp; omega, rfl⟩
set_option maxHeartbeats 400000 in
theorem rhas_at (a : Int) (b : Nat) (s : Option Addr) (l cap : Nat) (hl : l ≤ 65536) (w : World) (h0 : w.cell? ⟨b, 0, none⟩ = some (.slice s l cap)) :
    Calls Try.prog 50 #[.pointer (some ⟨b, 0, none⟩), .int .u64 a] w fun e w' => e = .returned (.bool (decide (a < l))) ∧ w' = w := by
  go_enter Try.func50, Try.ntmps50
  go_wp2_with (go_at_call 23; refine (rlen_at b s l cap _ h0).mono ?_; rintro e w' ⟨rfl, rfl⟩)
  go_ret
  exact ⟨by simp, rfl⟩
set_option maxHeartbeats 400000 in
theorem racc_nil (w : World) : Calls Try.prog 28 #[.pointer none] w fun e w' => e = .returned (.int .u64 0) ∧ w' = w := by
  go_enter Try.func28, Try.ntmps28
  go_wp2
  go_ret
  exact ⟨rfl, rfl⟩
set_option maxHeartbeats 400000 in
theorem racc_at (b : Nat) (n : Int) (w : World) (h0 : w.cell? ⟨b, 1, none⟩ = some (.int .u64 n)) : Calls Try.prog 28 #[.pointer (some ⟨b, 0, none⟩)] w fun e w' => e = .returned (.int .u64 n) ∧ w' = w := by
  go_enter Try.func28, Try.ntmps28
  go_wp2
  go_ret
  exact ⟨rfl, rfl⟩

set_option maxHeartbeats 400000 in
theorem asked_nil (a : Int) (w : World) : Calls Try.prog 54 #[.pointer none, .int .u64 a] w fun e w' => e = .returned (.int .i64 1) ∧ w' = w := by
  go_enter Try.func54, Try.ntmps54
  go_wp2
  go_ret
  exact ⟨rfl, rfl⟩
set_option maxHeartbeats 400000 in
theorem asked_at (b c cap : Nat) (rest : List Value) (ws : List Int) (n a : Int) (w : World) (h : RefAt w b c cap rest ws n) :
    Calls Try.prog 54 #[.pointer (some ⟨b, 0, none⟩), .int .u64 a] w fun e w' => e = .returned (.int .i64 (errAt ws.length a)) ∧ w' = w.setCell ⟨b, 1, none⟩ (.int .u64 (more n)) := by
  have c1 := h.cell1
  have f1 := h.frozen 1
  have k0 := (h.count (IntKind.u64.wrap (n + 1))).cell0
  have hm := h.le
  clear h
  by_cases ha : a < (ws.length : Int)
  · have hd2 : decide (a < (ws.length : Int)) = true := by simp; omega
    rw [show errAt ws.length a = 0 from if_pos ha]
    go_enter Try.func54, Try.ntmps54
    go_wp2_with fail
    refine (rhas_at a b _ ws.length cap hm _ k0).mono ?_
    rintro e w' ⟨rfl, rfl⟩
    go_wp2_with fail
    go_ret
    exact ⟨rfl, rfl⟩
  · have hd2 : decide (a < (ws.length : Int)) = false := by simp; omega
    rw [show errAt ws.length a = 4 from if_neg ha]
    go_enter Try.func54, Try.ntmps54
    go_wp2_with fail
    refine (rhas_at a b _ ws.length cap hm _ k0).mono ?_
    rintro e w' ⟨rfl, rfl⟩
    go_wp2_with fail
    go_ret
    exact ⟨rfl, rfl⟩

set_option maxHeartbeats 400000 in
theorem rload_nil (a : Int) (w : World) : Calls Try.prog 42 #[.pointer none, .int .u64 a] w fun e w' => e = .returned (.tuple #[.int .u64 0, .int .i64 1]) ∧ w' = w := by
  go_enter Try.func42, Try.ntmps42
  go_wp2_with (go_at_call 54; refine (asked_nil _ _).mono ?_; rintro e w' ⟨rfl, rfl⟩)
  go_ret2
  exact ⟨rfl, rfl⟩
set_option maxHeartbeats 400000 in
theorem rload_at (b c cap : Nat) (rest : List Value) (ws : List Int) (n a : Int) (w : World) (h : RefAt w b c cap rest ws n) (h0 : 0 ≤ a) :
    Calls Try.prog 42 #[.pointer (some ⟨b, 0, none⟩), .int .u64 a] w fun e w' => e = .returned (.tuple #[.int .u64 (wordAt ws a), .int .i64 (errAt ws.length a)]) ∧ RefAt w' b c cap rest ws (more n) ∧ Keeps (fun k => k = b ∨ k = c) w w' := by
  have hk := asked_at b c cap rest ws n a w h
  have r := h.count (more n)
  have k0 := r.cell0
  by_cases ha : a < (ws.length : Int)
  · have k1 := r.wcell a.toNat (by omega)
    rw [show errAt ws.length a = 0 from if_pos ha] at hk ⊢
    rw [show wordAt ws a = ws[a.toNat]?.getD 0 from if_pos ha]
    generalize ws[a.toNat]?.getD 0 = x at k1 ⊢
    have hx := keeps_count (w := w) (b := b) (c := c) (.int .u64 (more n))
    generalize w.setCell ⟨b, 1, none⟩ (.int .u64 (more n)) = w1 at hk r k0 k1 hx
    have HK := hk
    clear hk
    go_enter Try.func42, Try.ntmps42
    go_wp2_with fail
    refine HK.mono ?_
    rintro e w' ⟨rfl, rfl⟩
    go_wp2_with fail
    go_ret2
    exact ⟨rfl, r, hx⟩
  · rw [show errAt ws.length a = 4 from if_neg ha] at hk ⊢
    rw [show wordAt ws a = 0 from if_neg ha]
    go_enter Try.func42, Try.ntmps42
    go_wp2_with fail
    refine hk.mono ?_
    rintro e w' ⟨rfl, rfl⟩
    go_wp2_with fail
    go_ret2
    exact ⟨rfl, r, keeps_count _⟩

set_option maxHeartbeats 400000 in
theorem rstore_nil (a v : Int) (w : World) : Calls Try.prog 25 #[.pointer none, .int .u64 a, .int .u64 v] w fun e w' => e = .returned (.int .i64 1) ∧ w' = w := by
  go_enter Try.func25, Try.ntmps25
  go_wp2_with (go_at_call 54; refine (asked_nil _ _).mono ?_; rintro e w' ⟨rfl, rfl⟩)
  go_ret
  exact ⟨rfl, rfl⟩
set_option maxHeartbeats 400000 in
theorem rstore_at (b c cap : Nat) (rest : List Value) (ws : List Int) (n a v : Int) (w : World) (h : RefAt w b c cap rest ws n) (h0 : 0 ≤ a) :
    Calls Try.prog 25 #[.pointer (some ⟨b, 0, none⟩), .int .u64 a, .int .u64 v] w fun e w' => e = .returned (.int .i64 (errAt ws.length a)) ∧ RefAt w' b c cap rest (putAt ws a v) (more n) ∧ Keeps (fun k => k = b ∨ k = c) w w' := by
  have hk := asked_at b c cap rest ws n a w h
  have r := h.count (more n)
  have k0 := r.cell0
  by_cases ha : a < (ws.length : Int)
  · have k1 := r.wcell a.toNat (by omega)
    have k2 := r.wfrozen a.toNat
    have r2 := r.store a.toNat v (by omega)
    rw [show errAt ws.length a = 0 from if_pos ha] at hk ⊢
    rw [show putAt ws a v = ws.set a.toNat v from if_pos ha]
    generalize ws[a.toNat]?.getD 0 = x at k1
    have hx := keeps_both (w := w) (b := b) (c := c) a.toNat (.int .u64 (more n)) (.int .u64 v)
    generalize w.setCell ⟨b, 1, none⟩ (.int .u64 (more n)) = w1 at hk r2 k0 k1 k2 hx
    clear r
    go_enter Try.func25, Try.ntmps25
    go_wp2_with fail
    refine hk.mono ?_
    rintro e w' ⟨rfl, rfl⟩
    go_wp2_with fail
    go_ret
    exact ⟨rfl, r2, hx⟩
  · rw [show errAt ws.length a = 4 from if_neg ha] at hk ⊢
    rw [show putAt ws a v = ws from if_neg ha]
    go_enter Try.func25, Try.ntmps25
    go_wp2_with fail
    refine hk.mono ?_
    rintro e w' ⟨rfl, rfl⟩
    go_wp2_with fail
    go_ret
    exact ⟨rfl, r, keeps_count _⟩

end Go.Proofs.Ytmffkcbdgpaieaa
