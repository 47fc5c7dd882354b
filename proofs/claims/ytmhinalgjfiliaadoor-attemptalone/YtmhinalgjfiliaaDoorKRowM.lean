/-
  No statement of the seat is proved here. (Several texts in one: KMem, KRowA, KRowB, KRowC, KRowD, KRowE, KOf.)
-/
import Derived.Test.YtmhinalgjfiliaaDoorTabC
import Derived.Test.YtmhinalgjfiliaaDoorRing
import Derived.Test.YtmhinalgjfiliaaDoorProg
import Derived.WalkKit
import Derived.WalkSpells
import Derived.WalkLawsBesides
import Derived.Laws.CopyOwn

/-
  Plain facts on blocks of memory: a row of words as it lies in the heap, and what a store, a new block and a draw do to it. No statement of the seat is proved here.
-/
namespace Go.Proofs.YtmhinalgjfiliaaDoor.C
open Go.RowKit

/-- Words as cells. -/
def u64s (ws : List Int) : Array Value := (ws.map (Value.int .u64)).toArray

theorem u64s_size (ws : List Int) : (u64s ws).size = ws.length := by simp [u64s]
theorem u64s_get (ws : List Int) (i : Nat) (h : i < ws.length) : (u64s ws)[i]? = some (.int .u64 (ws[i]?.getD 0)) := by
  simp [u64s, h]
theorem u64s_set (ws : List Int) (i : Nat) (v : Int) : (u64s ws).setIfInBounds i (.int .u64 v) = u64s (ws.set i v) := by
  simp [u64s, List.map_set]

/-- A row of the program's, in block b, its words in block c: the words, how many accesses. -/
structure RowAt (w : World) (t e : TypeId) (b c : Nat) (ws : List Int) (n : Int) : Prop where
  row : w.heap[b]? = some (.cells #[.slice (some ⟨c, 0, none⟩) ws.length ws.length, .int .u64 n] t (0, 0))
  words : w.heap[c]? = some (.cells (u64s ws) e (0, 0))
  ne : b ≠ c
  pos : 1 ≤ ws.length
  le : ws.length ≤ 65536

section
variable {w w' : World} {t e : TypeId} {b c : Nat} {ws : List Int} {n : Int}
theorem RowAt.cell0 (h : RowAt w t e b c ws n) : w.cell? ⟨b, 0, none⟩ = some (.slice (some ⟨c, 0, none⟩) ws.length ws.length) := by rw [cell_of_block h.row]; rfl
theorem RowAt.cell1 (h : RowAt w t e b c ws n) : w.cell? ⟨b, 1, none⟩ = some (.int .u64 n) := by rw [cell_of_block h.row]; rfl
theorem RowAt.frozen (h : RowAt w t e b c ws n) (i : Nat) : w.frozen? ⟨b, i, none⟩ = false := frozen_of_block h.row i
theorem RowAt.wcell (h : RowAt w t e b c ws n) (i : Nat) (hi : i < ws.length) : w.cell? ⟨c, i, none⟩ = some (.int .u64 (ws[i]?.getD 0)) := by rw [cell_of_block h.words, u64s_get ws i hi]
theorem RowAt.wfrozen (h : RowAt w t e b c ws n) (i : Nat) : w.frozen? ⟨c, i, none⟩ = false := frozen_of_block h.words i
theorem RowAt.ltb (h : RowAt w t e b c ws n) : b < w.heap.size := lt_of_block h.row
theorem RowAt.ltc (h : RowAt w t e b c ws n) : c < w.heap.size := lt_of_block h.words
theorem RowAt.kept {S : Nat → Prop} (h : RowAt w t e b c ws n) (k : Keeps S w w') (hb : ¬ S b) (hc : ¬ S c) : RowAt w' t e b c ws n :=
  ⟨(k.block b h.ltb hb).trans h.row, (k.block c h.ltc hc).trans h.words, h.ne, h.pos, h.le⟩
theorem RowAt.count (h : RowAt w t e b c ws n) (m : Int) : RowAt (w.setCell ⟨b, 1, none⟩ (.int .u64 m)) t e b c ws m :=
  ⟨block_set h.row 1 _, (Below.heap_setCell _ _ _ _ (Ne.symm h.ne)).trans h.words, h.ne, h.pos, h.le⟩
theorem RowAt.store (h : RowAt w t e b c ws n) (i : Nat) (v : Int) : RowAt (w.setCell ⟨c, i, none⟩ (.int .u64 v)) t e b c (ws.set i v) n :=
  ⟨by rw [List.length_set]; exact (Below.heap_setCell _ _ _ _ h.ne).trans h.row, by rw [block_set h.words i (.int .u64 v), u64s_set], h.ne, by rw [List.length_set]; exact h.pos, by rw [List.length_set]; exact h.le⟩
theorem RowAt.alloc (h : RowAt w t e b c ws n) (o : Obj) : RowAt (w.alloc o) t e b c ws n :=
  h.kept (S := fun _ => False) ((Keeps.refl _ w).alloc o) (fun f => f) (fun f => f)
end

theorem madeCells_u64 (n : Nat) : madeCells (Value.int .u64 0).cells n = u64s (List.replicate n 0) := by
  apply Array.ext
  · simp [size_madeCells, u64s]
  · intro i h1 h2
    simp [madeCells, u64s, Value.cells, Nat.mod_one]

end Go.Proofs.YtmhinalgjfiliaaDoor.C


/-
  Walks of the program's small methods on a row (cells.Row): Len, made, Has, access, Load, Store, Swap, Add, Accesses, New, and the law's num: what each returns and what it leaves in memory. No statement of the seat is proved here.
-/
namespace Go.Proofs.YtmhinalgjfiliaaDoor.C
open Go.RowKit

set_option maxHeartbeats 400000 in
theorem len_nil (w : World) : Calls Tryd.prog 43 #[.pointer none] w fun e w' => e = .returned (.int .i64 0) ∧ w' = w := by
  go_enter Tryd.func43, Tryd.ntmps43
  go_wp2
  go_ret
  exact ⟨rfl, rfl⟩

set_option maxHeartbeats 400000 in
theorem len_at (b : Nat) (s : Option Addr) (l cap : Nat) (w : World) (h0 : w.cell? ⟨b, 0, none⟩ = some (.slice s l cap)) :
    Calls Tryd.prog 43 #[.pointer (some ⟨b, 0, none⟩)] w fun e w' => e = .returned (.int .i64 l) ∧ w' = w := by
  go_enter Tryd.func43, Tryd.ntmps43
  go_wp2
  go_ret
  exact ⟨rfl, rfl⟩

set_option maxHeartbeats 400000 in
theorem made_nil (w : World) : Calls Tryd.prog 52 #[.pointer none] w fun e w' => e = .returned (.bool false) ∧ w' = w := by
  go_enter Tryd.func52, Tryd.ntmps52
  go_wp2_with (go_at_call 43; refine (len_nil _).mono ?_; rintro e w' ⟨rfl, rfl⟩)
  go_ret
  exact ⟨rfl, rfl⟩

set_option maxHeartbeats 400000 in
theorem made_at (b : Nat) (s : Option Addr) (l cap : Nat) (w : World) (h0 : w.cell? ⟨b, 0, none⟩ = some (.slice s l cap)) :
    Calls Tryd.prog 52 #[.pointer (some ⟨b, 0, none⟩)] w fun e w' => e = .returned (.bool (decide (0 < l))) ∧ w' = w := by
  go_enter Tryd.func52, Tryd.ntmps52
  go_wp2_with (go_at_call 43; refine (len_at b s l cap _ h0).mono ?_; rintro e w' ⟨rfl, rfl⟩)
  go_ret
  exact ⟨by simp, rfl⟩

set_option maxHeartbeats 400000 in
theorem has_nil (a : Int) (h : 0 ≤ a) (w : World) : Calls Tryd.prog 28 #[.pointer none, .int .u64 a] w fun e w' => e = .returned (.bool false) ∧ w' = w := by
  go_enter Tryd.func28, Tryd.ntmps28
  go_wp2_with (go_at_call 43; refine (len_nil _).mono ?_; rintro e w' ⟨rfl, rfl⟩)
  go_ret
  exact ⟨by simp; omega, rfl⟩

set_option maxHeartbeats 400000 in
theorem has_at (a : Int) (b : Nat) (s : Option Addr) (l cap : Nat) (hl : l ≤ 65536) (w : World) (h0 : w.cell? ⟨b, 0, none⟩ = some (.slice s l cap)) :
    Calls Tryd.prog 28 #[.pointer (some ⟨b, 0, none⟩), .int .u64 a] w fun e w' => e = .returned (.bool (decide (a < l))) ∧ w' = w := by
  go_enter Tryd.func28, Tryd.ntmps28
  go_wp2_with (go_at_call 43; refine (len_at b s l cap _ h0).mono ?_; rintro e w' ⟨rfl, rfl⟩)
  go_ret
  exact ⟨by simp, rfl⟩

end Go.Proofs.YtmhinalgjfiliaaDoor.C


/-
  Walks of the program's accesses to a row (cells.Row): access, Load, Store, Swap, Add; and New. No statement of the seat is proved here.
-/
namespace Go.Proofs.YtmhinalgjfiliaaDoor.C
open Go.RowKit

set_option maxHeartbeats 400000 in
theorem access_nil (a : Int) (w : World) : Calls Tryd.prog 40 #[.pointer none, .int .u64 a] w fun e w' => e = .returned (.tuple #[.pointer none, .int .i64 1]) ∧ w' = w := by
  go_enter Tryd.func40, Tryd.ntmps40
  go_wp2_with (go_at_call 52; refine (made_nil _).mono ?_; rintro e w' ⟨rfl, rfl⟩)
  go_ret2
  exact ⟨rfl, rfl⟩

set_option maxHeartbeats 400000 in
theorem access_zero (b : Nat) (a : Int) (w : World) (h0 : w.cell? ⟨b, 0, none⟩ = some (.slice none 0 0)) : Calls Tryd.prog 40 #[.pointer (some ⟨b, 0, none⟩), .int .u64 a] w fun e w' => e = .returned (.tuple #[.pointer none, .int .i64 1]) ∧ w' = w := by
  go_enter Tryd.func40, Tryd.ntmps40
  go_wp2_with (go_at_call 52; refine (made_at b none 0 0 _ h0).mono ?_; rintro e w' ⟨rfl, rfl⟩)
  go_ret2
  exact ⟨rfl, rfl⟩

set_option maxHeartbeats 400000 in
theorem access_out (b c : Nat) (ws : List Int) (n a : Int) (w : World) (h : RowAt w 59 34 b c ws n) (ha : (ws.length : Int) ≤ a) :
    Calls Tryd.prog 40 #[.pointer (some ⟨b, 0, none⟩), .int .u64 a] w fun e w' => e = .returned (.tuple #[.pointer none, .int .i64 4]) ∧ w' = w.setCell ⟨b, 1, none⟩ (.int .u64 (IntKind.u64.wrap (n + 1))) := by
  have c0 := h.cell0
  have c1 := h.cell1
  have f1 := h.frozen 1
  have k0 := (h.count (IntKind.u64.wrap (n + 1))).cell0
  have hp := h.pos
  have hm := h.le
  have hd : decide (0 < ws.length) = true := by simp; omega
  have hd2 : decide (a < (ws.length : Int)) = false := by simp; omega
  clear h
  go_enter Tryd.func40, Tryd.ntmps40
  go_wp2_with fail
  refine (made_at b _ ws.length ws.length _ c0).mono ?_
  rintro e w' ⟨rfl, rfl⟩
  go_wp2_with fail
  refine (has_at a b _ ws.length ws.length hm _ k0).mono ?_
  rintro e w' ⟨rfl, rfl⟩
  go_wp2_with fail
  go_ret2
  exact ⟨rfl, rfl⟩

set_option maxHeartbeats 400000 in
theorem access_in (b c : Nat) (ws : List Int) (n a : Int) (w : World) (h : RowAt w 59 34 b c ws n) (h0 : 0 ≤ a) (ha : a < (ws.length : Int)) :
    Calls Tryd.prog 40 #[.pointer (some ⟨b, 0, none⟩), .int .u64 a] w fun e w' => e = .returned (.tuple #[.pointer (some ⟨c, a.toNat, none⟩), .int .i64 0]) ∧ w' = w.setCell ⟨b, 1, none⟩ (.int .u64 (IntKind.u64.wrap (n + 1))) := by
  have c0 := h.cell0
  have c1 := h.cell1
  have f1 := h.frozen 1
  have k0 := (h.count (IntKind.u64.wrap (n + 1))).cell0
  have hp := h.pos
  have hm := h.le
  have hd : decide (0 < ws.length) = true := by simp; omega
  have hd2 : decide (a < (ws.length : Int)) = true := by simp; omega
  clear h
  go_enter Tryd.func40, Tryd.ntmps40
  go_wp2_with fail
  refine (made_at b _ ws.length ws.length _ c0).mono ?_
  rintro e w' ⟨rfl, rfl⟩
  go_wp2_with fail
  refine (has_at a b _ ws.length ws.length hm _ k0).mono ?_
  rintro e w' ⟨rfl, rfl⟩
  go_wp2_with fail
  go_ret2
  exact ⟨rfl, rfl⟩

end Go.Proofs.YtmhinalgjfiliaaDoor.C


/-
  Walks of the program's Load, Store, Swap, Add on a row (cells.Row), and of New: what each returns, the row behind it, and that no other block has turned. No statement of the seat is proved here.
-/
namespace Go.Proofs.YtmhinalgjfiliaaDoor.C
open Go.RowKit

/-- The number of an access' error at a row of so many cells. -/
def errAt (l : Nat) (a : Int) : Int := if a < (l : Int) then 0 else 4
/-- One more access. -/
def more (n : Int) : Int := IntKind.u64.wrap (n + 1)
/-- The word of an address: 0, where there is no such cell. -/
def wordAt (ws : List Int) (a : Int) : Int := if a < (ws.length : Int) then ws[a.toNat]?.getD 0 else 0
/-- The words behind a store: as they were, where there is no such cell. -/
def putAt (ws : List Int) (a v : Int) : List Int := if a < (ws.length : Int) then ws.set a.toNat v else ws

theorem putAt_len (ws : List Int) (a v : Int) : (putAt ws a v).length = ws.length := by unfold putAt; split <;> simp

section
variable {w : World} {b c : Nat} {ws : List Int} {n : Int}
theorem keeps_count (v : Value) : Keeps (fun k => k = b ∨ k = c) w (w.setCell ⟨b, 1, none⟩ v) := (Keeps.refl _ w).setCell (p := ⟨b, 1, none⟩) (.inr (.inl rfl)) v
theorem keeps_both (i : Nat) (v u : Value) : Keeps (fun k => k = b ∨ k = c) w ((w.setCell ⟨b, 1, none⟩ v).setCell ⟨c, i, none⟩ u) := (keeps_count v).setCell (p := ⟨c, i, none⟩) (.inr (.inr rfl)) u
end

set_option maxHeartbeats 400000 in
theorem load_none (p : Option Addr) (a : Int) (w : World) (hp : p = none ∨ ∃ b, p = some ⟨b, 0, none⟩ ∧ w.cell? ⟨b, 0, none⟩ = some (.slice none 0 0)) :
    Calls Tryd.prog 21 #[.pointer p, .int .u64 a] w fun e w' => e = .returned (.tuple #[.int .u64 0, .int .i64 1]) ∧ w' = w := by
  rcases hp with rfl | ⟨b, rfl, h0⟩
  · go_enter Tryd.func21, Tryd.ntmps21
    go_wp2_with (go_at_call 40; refine (access_nil _ _).mono ?_; rintro e w' ⟨rfl, rfl⟩)
    go_ret2
    exact ⟨rfl, rfl⟩
  · go_enter Tryd.func21, Tryd.ntmps21
    go_wp2_with (go_at_call 40; refine (access_zero b _ _ h0).mono ?_; rintro e w' ⟨rfl, rfl⟩)
    go_ret2
    exact ⟨rfl, rfl⟩

set_option maxHeartbeats 400000 in
theorem load_at (b c : Nat) (ws : List Int) (n a : Int) (w : World) (h : RowAt w 59 34 b c ws n) (h0 : 0 ≤ a) :
    Calls Tryd.prog 21 #[.pointer (some ⟨b, 0, none⟩), .int .u64 a] w fun e w' => e = .returned (.tuple #[.int .u64 (wordAt ws a), .int .i64 (errAt ws.length a)]) ∧ RowAt w' 59 34 b c ws (more n) ∧ Keeps (fun k => k = b ∨ k = c) w w' := by
  by_cases ha : a < (ws.length : Int)
  · have k0 := (h.count (more n)).wcell a.toNat (by omega)
    have r := h.count (more n)
    rw [show errAt ws.length a = 0 from if_pos ha, show wordAt ws a = ws[a.toNat]?.getD 0 from if_pos ha]
    generalize ws[a.toNat]?.getD 0 = x at k0 ⊢
    unfold more at k0
    go_enter Tryd.func21, Tryd.ntmps21
    go_wp2_with fail
    refine (access_in b c ws n a _ h h0 ha).mono ?_
    rintro e w' ⟨rfl, rfl⟩
    go_wp2_with fail
    go_ret2
    exact ⟨rfl, r, keeps_count _⟩
  · have r := h.count (more n)
    rw [show errAt ws.length a = 4 from if_neg ha, show wordAt ws a = 0 from if_neg ha]
    go_enter Tryd.func21, Tryd.ntmps21
    go_wp2_with fail
    refine (access_out b c ws n a _ h (by omega)).mono ?_
    rintro e w' ⟨rfl, rfl⟩
    go_wp2_with fail
    go_ret2
    exact ⟨rfl, r, keeps_count _⟩

set_option maxHeartbeats 400000 in
theorem store_none (p : Option Addr) (a v : Int) (w : World) (hp : p = none ∨ ∃ b, p = some ⟨b, 0, none⟩ ∧ w.cell? ⟨b, 0, none⟩ = some (.slice none 0 0)) :
    Calls Tryd.prog 77 #[.pointer p, .int .u64 a, .int .u64 v] w fun e w' => e = .returned (.int .i64 1) ∧ w' = w := by
  rcases hp with rfl | ⟨b, rfl, h0⟩
  · go_enter Tryd.func77, Tryd.ntmps77
    go_wp2_with (go_at_call 40; refine (access_nil _ _).mono ?_; rintro e w' ⟨rfl, rfl⟩)
    go_ret
    exact ⟨rfl, rfl⟩
  · go_enter Tryd.func77, Tryd.ntmps77
    go_wp2_with (go_at_call 40; refine (access_zero b _ _ h0).mono ?_; rintro e w' ⟨rfl, rfl⟩)
    go_ret
    exact ⟨rfl, rfl⟩

set_option maxHeartbeats 400000 in
theorem store_at (b c : Nat) (ws : List Int) (n a v : Int) (w : World) (h : RowAt w 59 34 b c ws n) (h0 : 0 ≤ a) :
    Calls Tryd.prog 77 #[.pointer (some ⟨b, 0, none⟩), .int .u64 a, .int .u64 v] w fun e w' => e = .returned (.int .i64 (errAt ws.length a)) ∧ RowAt w' 59 34 b c (putAt ws a v) (more n) ∧ Keeps (fun k => k = b ∨ k = c) w w' := by
  by_cases ha : a < (ws.length : Int)
  · have r := (h.count (more n)).store a.toNat v
    have k0 := (h.count (IntKind.u64.wrap (n + 1))).wcell a.toNat (by omega)
    have k1 := (h.count (IntKind.u64.wrap (n + 1))).wfrozen a.toNat
    rw [show errAt ws.length a = 0 from if_pos ha, show putAt ws a v = ws.set a.toNat v from if_pos ha]
    go_enter Tryd.func77, Tryd.ntmps77
    go_wp2_with fail
    refine (access_in b c ws n a _ h h0 ha).mono ?_
    rintro e w' ⟨rfl, rfl⟩
    go_wp2_with fail
    go_ret
    exact ⟨rfl, r, keeps_both _ _ _⟩
  · have r := h.count (more n)
    rw [show errAt ws.length a = 4 from if_neg ha, show putAt ws a v = ws from if_neg ha]
    go_enter Tryd.func77, Tryd.ntmps77
    go_wp2_with fail
    refine (access_out b c ws n a _ h (by omega)).mono ?_
    rintro e w' ⟨rfl, rfl⟩
    go_wp2_with fail
    go_ret
    exact ⟨rfl, r, keeps_count _⟩

set_option maxHeartbeats 400000 in
theorem swap_none (p : Option Addr) (a o v : Int) (w : World) (hp : p = none ∨ ∃ b, p = some ⟨b, 0, none⟩ ∧ w.cell? ⟨b, 0, none⟩ = some (.slice none 0 0)) :
    Calls Tryd.prog 84 #[.pointer p, .int .u64 a, .int .u64 o, .int .u64 v] w fun e w' => e = .returned (.tuple #[.bool false, .int .i64 1]) ∧ w' = w := by
  rcases hp with rfl | ⟨b, rfl, h0⟩
  · go_enter Tryd.func84, Tryd.ntmps84
    go_wp2_with (go_at_call 40; refine (access_nil _ _).mono ?_; rintro e w' ⟨rfl, rfl⟩)
    go_ret2
    exact ⟨rfl, rfl⟩
  · go_enter Tryd.func84, Tryd.ntmps84
    go_wp2_with (go_at_call 40; refine (access_zero b _ _ h0).mono ?_; rintro e w' ⟨rfl, rfl⟩)
    go_ret2
    exact ⟨rfl, rfl⟩

/-- Whether a Swap is done. -/
def swaps (ws : List Int) (a o : Int) : Bool := decide (a < (ws.length : Int)) && (ws[a.toNat]?.getD 0 == o)

set_option maxHeartbeats 400000 in
theorem swap_at (b c : Nat) (ws : List Int) (n a o v : Int) (w : World) (h : RowAt w 59 34 b c ws n) (h0 : 0 ≤ a) :
    Calls Tryd.prog 84 #[.pointer (some ⟨b, 0, none⟩), .int .u64 a, .int .u64 o, .int .u64 v] w fun e w' => e = .returned (.tuple #[.bool (swaps ws a o), .int .i64 (errAt ws.length a)]) ∧ RowAt w' 59 34 b c (if swaps ws a o then putAt ws a v else ws) (more n) ∧ Keeps (fun k => k = b ∨ k = c) w w' := by
  by_cases ha : a < (ws.length : Int)
  · have r := (h.count (more n)).store a.toNat v
    have r' := h.count (more n)
    have k0 := (h.count (IntKind.u64.wrap (n + 1))).wcell a.toNat (by omega)
    have k1 := (h.count (IntKind.u64.wrap (n + 1))).wfrozen a.toNat
    rw [show errAt ws.length a = 0 from if_pos ha, show putAt ws a v = ws.set a.toNat v from if_pos ha]
    have hs : swaps ws a o = (ws[a.toNat]?.getD 0 == o) := by simp [swaps, ha]
    rw [hs]
    clear hs
    generalize ws[a.toNat]?.getD 0 = x at k0 ⊢
    cases hb : (x == o)
    · have hb' : (x != o) = true := by simp [bne, hb]
      go_enter Tryd.func84, Tryd.ntmps84
      go_wp2_with fail
      refine (access_in b c ws n a _ h h0 ha).mono ?_
      rintro e w' ⟨rfl, rfl⟩
      go_wp2_with fail
      go_ret2
      exact ⟨rfl, r', keeps_count _⟩
    · have hb' : (x != o) = false := by simp [bne, hb]
      go_enter Tryd.func84, Tryd.ntmps84
      go_wp2_with fail
      refine (access_in b c ws n a _ h h0 ha).mono ?_
      rintro e w' ⟨rfl, rfl⟩
      go_wp2_with fail
      go_ret2
      exact ⟨rfl, r, keeps_both _ _ _⟩
  · have r := h.count (more n)
    have hs : swaps ws a o = false := by simp [swaps, ha]
    rw [show errAt ws.length a = 4 from if_neg ha, hs]
    clear hs
    go_enter Tryd.func84, Tryd.ntmps84
    go_wp2_with fail
    refine (access_out b c ws n a _ h (by omega)).mono ?_
    rintro e w' ⟨rfl, rfl⟩
    go_wp2_with fail
    go_ret2
    exact ⟨rfl, r, keeps_count _⟩

end Go.Proofs.YtmhinalgjfiliaaDoor.C


/-
  Walks of the program's New (cells.New), of the law's small row 'known', and what they leave in memory. No statement of the seat is proved here.
-/
namespace Go.Proofs.YtmhinalgjfiliaaDoor.C
open Go.RowKit

theorem info36 : (Tryd.prog.info? 34).map (fun i => (i.zero, i.size, i.bytes)) = some (some (.int .u64 0), 1, 8) := by kernel_rfl

/-- 'make([]uint64, n)' at any number of cells within reach. -/
theorem run_make36 (w : World) (n : Int) (h0 : 0 ≤ n) (h1 : n ≤ 35184372088832) :
    (Instr.makeSlice 22 (.int .i64 n) (.int .i64 n)).run Tryd.prog w = .ok (.slice (some ⟨w.heap.size, 0, none⟩) n.toNat n.toNat) (w.alloc (.cells (u64s (List.replicate n.toNat 0)) 34)) := by
  obtain ⟨i0, hi, hz0, hz1, hz2⟩ := info_parts info36
  have h := run_make (P := Tryd.prog) w 22 34 i0 (.int .u64 0) Tryd.underlying22 hi hz0 .i64 .i64 n n h0 (Int.le_refl _) (by rw [hz2]; omega) (by omega)
  rw [hz1, Nat.mul_one, madeCells_u64] at h
  exact h

set_option maxHeartbeats 400000 in
theorem new_no (n : Int) (w : World) (h : n < 1 ∨ 65536 < n) : Calls Tryd.prog 14 #[.int .i64 n] w fun e w' => e = .returned (.tuple #[.pointer none, .int .i64 2]) ∧ w' = w := by
  by_cases h1 : n < 1
  · go_enter Tryd.func14, Tryd.ntmps14
    go_wp2
    go_ret2
    exact ⟨rfl, rfl⟩
  · have h2 : 65536 < n := by omega
    go_enter Tryd.func14, Tryd.ntmps14
    go_wp2
    go_ret2
    exact ⟨rfl, rfl⟩

set_option maxHeartbeats 400000 in
theorem new_yes (n : Int) (w : World) (h1 : 1 ≤ n) (h2 : n ≤ 65536) : Calls Tryd.prog 14 #[.int .i64 n] w fun e w' =>
    e = .returned (.tuple #[.pointer (some ⟨w.heap.size + 1, 0, none⟩), .int .i64 0]) ∧ RowAt w' 59 34 (w.heap.size + 1) w.heap.size (List.replicate n.toNat 0) 0 ∧ Keeps (fun _ => False) w w' := by
  have hmk := run_make36 w n (by omega) (by omega)
  have h3 : ¬ n < 1 := by omega
  have h4 : ¬ 65536 < n := by omega
  generalize hx : u64s (List.replicate n.toNat 0) = x at hmk
  have HX : Hid (u64s (List.replicate n.toNat 0) = x) := hx
  clear hx
  go_enter Tryd.func14, Tryd.ntmps14
  go_wp2
  go_ret2
  refine ⟨rfl, ⟨?_, ?_, by omega, by simp; omega, by simp; omega⟩, ((Keeps.refl _ w).alloc _).alloc _⟩
  · rw [List.length_replicate]
    have := (MapKept.heap_alloc (w.alloc (.cells x 34)) (.cells #[.slice (some ⟨w.heap.size, 0, none⟩) n.toNat n.toNat, .int .u64 0] 59)).1
    simpa using this
  · rw [HX.out, Below.heap_alloc _ _ _ (by simp)]
    exact (MapKept.heap_alloc w _).1

end Go.Proofs.YtmhinalgjfiliaaDoor.C


/-
  Walks of the program's clone, Words, Copy, Of and Slice (package cells): copies in new memory. No statement of the seat is proved here.
-/
namespace Go.Proofs.YtmhinalgjfiliaaDoor.C
open Go.RowKit

theorem size36 : (Tryd.prog.info? 34).map (·.size) = some 1 := by kernel_rfl

/-- A slice of words as it stands in memory: its first cells. -/
def Reads (w : World) (sp : Option Addr) (ws : List Int) : Prop := ∀ i, i < ws.length → ∃ a, sp = some a ∧ w.cell? (a.add i) = some (.int .u64 (ws[i]?.getD 0))

theorem Reads.nil (w : World) (sp : Option Addr) : Reads w sp [] := fun i h => absurd h (by simp)
theorem addr_add (b o i : Nat) : (⟨b, o, none⟩ : Addr).add i = ⟨b, o + i, none⟩ := by unfold Addr.add; split <;> simp_all
theorem Reads.block {w : World} {b : Nat} {ws : List Int} {e : TypeId} (h : w.heap[b]? = some (.cells (u64s ws) e (0, 0))) : Reads w (some ⟨b, 0, none⟩) ws :=
  fun i hi => ⟨_, rfl, by rw [addr_add, Nat.zero_add, cell_of_block h, u64s_get ws i hi]⟩

theorem setRow_keeps (w : World) (x : Array Value) (cs : Array Value) : Keeps (fun _ => False) w ((w.alloc (.cells x 34)).setRow w.heap.size cs) :=
  Keeps.of_below (below_setRow ((Below.refl _ w).alloc (Nat.le_refl _) _) (Nat.le_refl _) cs) _

set_option maxRecDepth 100000 in
theorem copy_all (w : World) (x : Array Value) (sp : Option Addr) (l cap : Nat) (ws : List Int) (hn : ws.length = l) (hs0 : x.size = l) (hr : Reads w sp ws) :
    ∃ W, (∀ ty, (Builtin.copy_ #[22, 22] ty #[.slice (some ⟨w.heap.size, 0, none⟩) l l, .slice sp l cap]).run Tryd.prog (w.alloc (.cells x 34)) = .ok (goInt l) W) ∧ W.heap[w.heap.size]? = some (.cells (u64s ws) 34 (0, 0)) ∧ W.heap.size = w.heap.size + 1 ∧ Keeps (fun _ => False) w W := by
  have hg : (w.alloc (.cells x 34)).heap[w.heap.size]? = some (.cells x 34 (0, 0)) := (MapKept.heap_alloc w _).1
  by_cases h0 : l = 0
  · subst h0
    obtain rfl : ws = [] := List.eq_nil_of_length_eq_zero hn
    obtain rfl : x = #[] := by simpa using hs0
    exact ⟨_, fun ty => run_copy_none _ 22 22 ty 34 _ _ 0 0 0 cap Tryd.underlying22 size36 rfl, hg, by simp, (Keeps.refl _ w).alloc _⟩
  · obtain ⟨a, rfl, _⟩ := hr 0 (by omega)
    refine ⟨(w.alloc (.cells x 34)).setRow w.heap.size (u64s ws), fun ty => ?_, setRow_heap (w.alloc (.cells x 34)) w.heap.size x (u64s ws) 34 (0, 0) hg, by simp [World.setRow], setRow_keeps w x (u64s ws)⟩
    have h := run_copy_row (P := Tryd.prog) (w.alloc (.cells x 34)) 22 22 ty 34 w.heap.size 0 l l a l cap x 34 (u64s ws).toList Tryd.underlying22 size36 hg (by simp [u64s, hn])
      (fun j v hj => by
        have hj' : j < ws.length := by
          have := (List.getElem?_eq_some_iff.1 hj).1
          simpa [u64s] using this
        obtain ⟨a', ha', hc⟩ := hr j hj'
        cases ha'
        rw [show (w.alloc (.cells x 34)).cell? (a.add j) = w.cell? (a.add j) from World.cell?_alloc_lt _ _ _ (World.block_lt_of_cell? _ _ hc), hc, ← u64s_get ws j hj', ← hj]
        simp)
      (by simp [u64s, hn, hs0]) (fun v hv => by
        simp [u64s] at hv
        obtain ⟨y, _, rfl⟩ := hv
        rfl)
    rw [h]
    have : (u64s ws).toList.length = l := by simp [u64s, hn]
    rw [this]
    congr 2
    rw [List.drop_eq_nil_of_le (by simp [hs0])]
    simp

set_option maxHeartbeats 400000 in
theorem clone_any (sp : Option Addr) (l cap : Nat) (ws : List Int) (w : World) (hn : ws.length = l) (hl : l ≤ 65536) (hr : Reads w sp ws) :
    Calls Tryd.prog 18 #[.slice sp l cap] w fun e w' => e = .returned (.slice (some ⟨w.heap.size, 0, none⟩) l l) ∧ w'.heap[w.heap.size]? = some (.cells (u64s ws) 34 (0, 0)) ∧ w'.heap.size = w.heap.size + 1 ∧ Keeps (fun _ => False) w w' := by
  have hmk := run_make36 w (l : Int) (by omega) (by omega)
  rw [Int.toNat_natCast] at hmk
  have hs0 : (u64s (List.replicate l 0)).size = l := by rw [u64s_size]; simp
  generalize u64s (List.replicate l 0) = x at hmk hs0
  obtain ⟨W, hcp, hb, hz, hk⟩ := copy_all w x sp l cap ws hn hs0 hr
  clear hr hn hs0
  have HZ : Hid (W.heap.size = w.heap.size + 1) := hz
  have HB : Hid (W.heap[w.heap.size]? = some (.cells (u64s ws) 34 (0, 0))) := hb
  clear hz hb
  go_enter Tryd.func18, Tryd.ntmps18
  go_wp2
  go_ret
  exact ⟨rfl, HB.out, HZ.out, hk⟩

end Go.Proofs.YtmhinalgjfiliaaDoor.C


/-
  Walks of the program's Of and Copy (package cells). No statement of the seat is proved here.
-/
namespace Go.Proofs.YtmhinalgjfiliaaDoor.C
open Go.RowKit

set_option maxHeartbeats 400000 in
theorem of_no (sp : Option Addr) (l c : Nat) (w : World) (h : l < 1 ∨ 65536 < l) : Calls Tryd.prog 6 #[.slice sp l c] w fun e w' => e = .returned (.tuple #[.pointer none, .int .i64 2]) ∧ w' = w := by
  by_cases h1 : (l : Int) < 1
  · go_enter Tryd.func6, Tryd.ntmps6
    go_wp2
    go_ret2
    exact ⟨rfl, rfl⟩
  · have h2 : (65536 : Int) < l := by omega
    go_enter Tryd.func6, Tryd.ntmps6
    go_wp2
    go_ret2
    exact ⟨rfl, rfl⟩

theorem row_made {w w1 : World} {ws : List Int} (hb : w1.heap[w.heap.size]? = some (.cells (u64s ws) 34 (0, 0))) (hz : w1.heap.size = w.heap.size + 1) (h1 : 1 ≤ ws.length) (h2 : ws.length ≤ 65536) :
    RowAt (w1.alloc (.cells #[.slice (some ⟨w.heap.size, 0, none⟩) ws.length ws.length, .int .u64 0] 59)) 59 34 (w.heap.size + 1) w.heap.size ws 0 :=
  ⟨by rw [← hz]; exact (MapKept.heap_alloc w1 _).1, (Below.heap_alloc _ _ _ (by omega)).trans hb, by omega, h1, h2⟩

set_option maxHeartbeats 400000 in
theorem of_yes (sp : Option Addr) (l c : Nat) (ws : List Int) (w : World) (hn : ws.length = l) (hr : Reads w sp ws) (h1 : 1 ≤ l) (h2 : l ≤ 65536) :
    Calls Tryd.prog 6 #[.slice sp l c] w fun e w' => e = .returned (.tuple #[.pointer (some ⟨w.heap.size + 1, 0, none⟩), .int .i64 0]) ∧ RowAt w' 59 34 (w.heap.size + 1) w.heap.size ws 0 ∧ Keeps (fun _ => False) w w' := by
  have h3 : ¬ (l : Int) < 1 := by omega
  have h4 : ¬ (65536 : Int) < l := by omega
  subst hn
  go_enter Tryd.func6, Tryd.ntmps6
  go_wp2_with fail
  refine (clone_any sp ws.length c ws _ rfl h2 hr).mono ?_
  rintro e w1 ⟨rfl, hb, hz, hk⟩
  have hm := row_made hb hz h1 h2
  have HZ : Hid (w1.heap.size = w.heap.size + 1) := hz
  clear hb hz hr
  go_wp2
  go_ret2
  refine ⟨?_, hm, hk.alloc _⟩
  rw [HZ.out]
  rfl

set_option maxHeartbeats 400000 in
theorem copy_at (b c : Nat) (ws : List Int) (n : Int) (w : World) (h : RowAt w 59 34 b c ws n) :
    Calls Tryd.prog 58 #[.pointer (some ⟨b, 0, none⟩)] w fun e w' => e = .returned (.pointer (some ⟨w.heap.size + 1, 0, none⟩)) ∧ RowAt w' 59 34 (w.heap.size + 1) w.heap.size ws 0 ∧ Keeps (fun _ => False) w w' := by
  have c0 := h.cell0
  have hp := h.pos
  have hle := h.le
  have hd : decide (0 < ws.length) = true := by simp; omega
  go_enter Tryd.func58, Tryd.ntmps58
  go_wp2_with fail
  refine (made_at b _ ws.length ws.length _ c0).mono ?_
  rintro e w' ⟨rfl, rfl⟩
  go_wp2_with fail
  refine (clone_any _ ws.length ws.length ws _ rfl h.le (Reads.block h.words)).mono ?_
  rintro e w1 ⟨rfl, hb, hz, hk⟩
  have hm := row_made hb hz hp hle
  have HZ : Hid (w1.heap.size = w'.heap.size + 1) := hz
  clear hb hz
  go_wp2
  go_ret
  refine ⟨?_, hm, hk.alloc _⟩
  rw [HZ.out]
  rfl

end Go.Proofs.YtmhinalgjfiliaaDoor.C
