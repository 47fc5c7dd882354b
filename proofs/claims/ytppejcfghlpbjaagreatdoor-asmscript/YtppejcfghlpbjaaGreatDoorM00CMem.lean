/-
  No statement of the seat is proved here. (Several texts in one: CMem, CdA, CdB.)
-/
import Derived.WalkKit
import Derived.Deep.Draws
import Derived.Test.YtppejcfghlpbjaaGreatDoorProg
import Derived.WalkSpells
import Derived.WalkLawsBesides

/-
  Plain facts on blocks of memory: a row of words as it lies in the heap, and what a store, a new block and a draw do to it. No statement of the seat is proved here.
-/
namespace Go.Proofs.YtppejcfghlpbjaaGreatDoor
open Go.RowKit

/-- Words as cells. -/
def u64s (ws : List Int) : Array Value := (ws.map (Value.int .u64)).toArray

theorem u64s_size (ws : List Int) : (u64s ws).size = ws.length := by simp [u64s]
theorem u64s_get (ws : List Int) (i : Nat) (h : i < ws.length) : (u64s ws)[i]? = some (.int .u64 (ws[i]?.getD 0)) := by
  simp [u64s, h]
theorem u64s_set (ws : List Int) (i : Nat) (v : Int) : (u64s ws).setIfInBounds i (.int .u64 v) = u64s (ws.set i v) := by
  simp [u64s, List.map_set]

theorem cell_of_block {w : World} {b : Nat} {c : Array Value} {t : TypeId} {fr : Nat × Nat} (h : w.heap[b]? = some (.cells c t fr)) (i : Nat) : w.cell? ⟨b, i, none⟩ = c[i]? := by
  simp [World.cell?, h]
theorem frozen_of_block {w : World} {b : Nat} {c : Array Value} {t : TypeId} (h : w.heap[b]? = some (.cells c t (0, 0))) (i : Nat) : w.frozen? ⟨b, i, none⟩ = false := by
  simp [World.frozen?, h]
theorem lt_of_block {w : World} {b : Nat} {o : Obj} (h : w.heap[b]? = some o) : b < w.heap.size := (Array.getElem?_eq_some_iff.1 h).1
theorem block_set {w : World} {b : Nat} {c : Array Value} {t : TypeId} {fr : Nat × Nat} (h : w.heap[b]? = some (.cells c t fr)) (i : Nat) (v : Value) :
    (w.setCell ⟨b, i, none⟩ v).heap[b]? = some (.cells (c.setIfInBounds i v) t fr) := by
  simp [World.setCell, Array.getElem?_modify, h]

/-- All blocks that were there lie as they lay, but those of S; the streams are as they were. -/
structure Keeps (S : Nat → Prop) (w w' : World) : Prop where
  os : w'.os = w.os
  tape : w'.tape = w.tape
  output : w'.output = w.output
  size : w.heap.size ≤ w'.heap.size
  block : ∀ k, k < w.heap.size → ¬ S k → w'.heap[k]? = w.heap[k]?

theorem Keeps.refl (S : Nat → Prop) (w : World) : Keeps S w w := ⟨rfl, rfl, rfl, Nat.le_refl _, fun _ _ _ => rfl⟩
theorem Keeps.trans {S : Nat → Prop} {a b c : World} (h : Keeps S a b) (k : Keeps S b c) : Keeps S a c :=
  ⟨k.os.trans h.os, k.tape.trans h.tape, k.output.trans h.output, Nat.le_trans h.size k.size, fun i hi hs => (k.block i (Nat.lt_of_lt_of_le hi h.size) hs).trans (h.block i hi hs)⟩
theorem Keeps.mono {S T : Nat → Prop} {a b : World} (h : Keeps S a b) (hst : ∀ k, k < a.heap.size → S k → T k) : Keeps T a b :=
  ⟨h.os, h.tape, h.output, h.size, fun i hi ht => h.block i hi (fun hs => ht (hst i hi hs))⟩
theorem Keeps.alloc {S : Nat → Prop} {a w : World} (h : Keeps S a w) (o : Obj) : Keeps S a (w.alloc o) :=
  h.trans ⟨rfl, rfl, rfl, by simp, fun k hk _ => Below.heap_alloc _ _ _ hk⟩
theorem Keeps.setCell {S : Nat → Prop} {a w : World} (h : Keeps S a w) {p : Addr} (hp : a.heap.size ≤ p.block ∨ S p.block) (v : Value) : Keeps S a (w.setCell p v) :=
  ⟨h.os, h.tape, h.output, by simpa using h.size, fun k hk hs => (Below.heap_setCell _ _ _ _ (by
    intro e; rcases hp with hp | hp
    · omega
    · exact hs (e ▸ hp))).trans (h.block k hk hs)⟩
theorem Keeps.drew {S : Nat → Prop} {a w : World} (h : Keeps S a w) : Keeps S a w.drew := ⟨h.os, h.tape, h.output, h.size, h.block⟩
theorem Keeps.drewN {S : Nat → Prop} {a w : World} (h : Keeps S a w) (n : Nat) : Keeps S a (w.drewN n) := ⟨h.os, h.tape, h.output, h.size, h.block⟩
theorem Keeps.grown {S : Nat → Prop} {a w w' : World} {row : Option Nat} (h : Keeps S a w) (hg : w.grownBy w' row) (hr : ∀ k, row = some k → a.heap.size ≤ k ∨ S k) : Keeps S a w' :=
  ⟨hg.os.trans h.os, hg.tape.trans h.tape, hg.output.trans h.output, Nat.le_trans h.size hg.size, fun k hk hs => (hg.block k (Nat.lt_of_lt_of_le hk h.size) (fun e => by
    rcases hr k e.symm with h1 | h1
    · omega
    · exact hs h1)).trans (h.block k hk hs)⟩
theorem Keeps.below {S : Nat → Prop} {a w : World} (h : Keeps S a w) (B : Nat) (hB : B ≤ a.heap.size) (hS : ∀ k, S k → B ≤ k) : Below B a w :=
  ⟨h.os, h.tape, h.output, h.size, fun k hk => h.block k (by omega) (fun hs => by have := hS k hs; omega)⟩
theorem Keeps.of_below {a w : World} (h : Below a.heap.size a w) (S : Nat → Prop) : Keeps S a w := ⟨h.os, h.tape, h.output, h.size, fun k hk _ => h.block k hk⟩

/-- A row of the program's, in block b, its words in block c: the words, how many accesses. -/
structure RowAt (w : World) (t e : TypeId) (b c : Nat) (ws : List Int) (n : Int) : Prop where
  row : w.heap[b]? = some (.cells #[.slice (some ⟨c, 0, none⟩) ws.length ws.length, .int .u64 n] t (0, 0))
  words : w.heap[c]? = some (.cells (u64s ws) e (0, 0))
  ne : b ≠ c
  pos : 1 ≤ ws.length
  le : ws.length ≤ 65536

section
variable {w w' : World} {t e : TypeId} {b c : Nat} {ws : List Int} {n : Int}
theorem RowAt.cell0 (h : RowAt w t e b c ws n) : w.cell? ⟨b, 0, none⟩ = some (.slice (some ⟨c, 0, none⟩) ws.length ws.length) := by rw [cell_of_block h.row]; rfl
theorem RowAt.cell1 (h : RowAt w t e b c ws n) : w.cell? ⟨b, 1, none⟩ = some (.int .u64 n) := by rw [cell_of_block h.row]; rfl
theorem RowAt.frozen (h : RowAt w t e b c ws n) (i : Nat) : w.frozen? ⟨b, i, none⟩ = false := frozen_of_block h.row i
theorem RowAt.wcell (h : RowAt w t e b c ws n) (i : Nat) (hi : i < ws.length) : w.cell? ⟨c, i, none⟩ = some (.int .u64 (ws[i]?.getD 0)) := by rw [cell_of_block h.words, u64s_get ws i hi]
theorem RowAt.wfrozen (h : RowAt w t e b c ws n) (i : Nat) : w.frozen? ⟨c, i, none⟩ = false := frozen_of_block h.words i
theorem RowAt.ltb (h : RowAt w t e b c ws n) : b < w.heap.size := lt_of_block h.row
theorem RowAt.ltc (h : RowAt w t e b c ws n) : c < w.heap.size := lt_of_block h.words
theorem RowAt.kept {S : Nat → Prop} (h : RowAt w t e b c ws n) (k : Keeps S w w') (hb : ¬ S b) (hc : ¬ S c) : RowAt w' t e b c ws n :=
  ⟨(k.block b h.ltb hb).trans h.row, (k.block c h.ltc hc).trans h.words, h.ne, h.pos, h.le⟩
theorem RowAt.count (h : RowAt w t e b c ws n) (m : Int) : RowAt (w.setCell ⟨b, 1, none⟩ (.int .u64 m)) t e b c ws m :=
  ⟨block_set h.row 1 _, (Below.heap_setCell _ _ _ _ (Ne.symm h.ne)).trans h.words, h.ne, h.pos, h.le⟩
theorem RowAt.store (h : RowAt w t e b c ws n) (i : Nat) (v : Int) : RowAt (w.setCell ⟨c, i, none⟩ (.int .u64 v)) t e b c (ws.set i v) n :=
  ⟨by rw [List.length_set]; exact (Below.heap_setCell _ _ _ _ h.ne).trans h.row, by rw [block_set h.words i (.int .u64 v), u64s_set], h.ne, by rw [List.length_set]; exact h.pos, by rw [List.length_set]; exact h.le⟩
theorem RowAt.alloc (h : RowAt w t e b c ws n) (o : Obj) : RowAt (w.alloc o) t e b c ws n :=
  h.kept (S := fun _ => False) ((Keeps.refl _ w).alloc o) (fun f => f) (fun f => f)
end

theorem madeCells_u64 (n : Nat) : madeCells (Value.int .u64 0).cells n = u64s (List.replicate n 0) := by
  apply Array.ext
  · simp [size_madeCells, u64s]
  · intro i h1 h2
    simp [madeCells, u64s, Value.cells, Nat.mod_one]

end Go.Proofs.YtppejcfghlpbjaaGreatDoor


/- Walks of the program's small functions on operations (package code): known, regs, number, where, parts, Info, Name, Named, Formed. No statement of the seat is proved here. -/
namespace Go.Proofs.YtppejcfghlpbjaaGreatDoor
open Go.RowKit

/-- The operations' names, by their numbers. -/
def nms : List (List UInt8) := [[], [99, 111, 110, 115, 116], [109, 111, 118, 101], [97, 100, 100], [115, 117, 98], [109, 117, 108], [108, 101, 115, 115], [101, 113, 117, 97, 108], [106, 117, 109, 112], [122, 101, 114, 111], [108, 111, 97, 100], [115, 116, 111, 114, 101], [98, 101, 103, 105, 110], [103, 101, 116], [112, 117, 116], [101, 110, 100], [97, 98, 111, 114, 116], [104, 97, 108, 116]]
def nm (i : Nat) : ByteArray := ⟨((nms[i]?).getD []).toArray⟩
/-- How many registers, is there a number, is it a target, outside, inside. -/
def regsN (op : Int) : Nat := ([0, 1, 2, 3, 3, 3, 3, 3, 0, 1, 2, 2, 0, 2, 2, 0, 0, 0][op.toNat]?).getD 0
def numB (op : Int) : Bool := ([false, true, false, false, false, false, false, false, true, true, false, false, false, false, false, false, true, false][op.toNat]?).getD false
def tgtB (op : Int) : Bool := ([false, false, false, false, false, false, false, false, true, true, false, false, false, false, false, false, true, false][op.toNat]?).getD false
def outB (op : Int) : Bool := ([false, true, true, true, true, true, true, true, true, true, true, true, true, false, false, false, false, true][op.toNat]?).getD false
def insB (op : Int) : Bool := ([false, true, true, true, true, true, true, true, true, true, false, false, false, true, true, true, true, false][op.toNat]?).getD false
def partsN (op : Int) : Nat := if numB op then regsN op + 1 else regsN op

theorem op17 {op : Int} (h0 : 1 ≤ op) (h1 : op ≤ 17) : op = 1 ∨ op = 2 ∨ op = 3 ∨ op = 4 ∨ op = 5 ∨ op = 6 ∨ op = 7 ∨ op = 8 ∨ op = 9 ∨ op = 10 ∨ op = 11 ∨ op = 12 ∨ op = 13 ∨ op = 14 ∨ op = 15 ∨ op = 16 ∨ op = 17 := by omega
theorem regsN_le {op : Int} (h0 : 1 ≤ op) (h1 : op ≤ 17) : regsN op ≤ 3 ∧ (numB op = true → regsN op ≤ 1) := by
  rcases op17 h0 h1 with rfl | rfl | rfl | rfl | rfl | rfl | rfl | rfl | rfl | rfl | rfl | rfl | rfl | rfl | rfl | rfl | rfl <;> decide
theorem partsN_le {op : Int} (h0 : 1 ≤ op) (h1 : op ≤ 17) : partsN op ≤ 3 := by
  rcases op17 h0 h1 with rfl | rfl | rfl | rfl | rfl | rfl | rfl | rfl | rfl | rfl | rfl | rfl | rfl | rfl | rfl | rfl | rfl <;> decide

/-- The program's table of names, where it lies. -/
def Nms (w : World) : Prop := ∀ i : Nat, i < 18 → w.cell? ⟨0, i, none⟩ = some (.string (nm i))
theorem Nms.lt {w : World} (h : Nms w) : 0 < w.heap.size := World.block_lt_of_cell? _ _ (h 0 (by decide))
theorem Nms.below {w w' : World} (h : Nms w) (k : Below w.heap.size w w') : Nms w' := by
  intro i hi
  rw [← h i hi]
  simp only [World.cell?, k.block 0 h.lt]
theorem Nms.keeps {w w' : World} {S : Nat → Prop} (h : Nms w) (k : Keeps S w w') (hs : ¬ S 0) : Nms w' := by
  intro i hi
  rw [← h i hi]
  simp only [World.cell?, k.block 0 h.lt hs]

theorem known_yes (op : Int) (h0 : 1 ≤ op) (h1 : op ≤ 17) (w : World) : Calls Tryz.prog 75 #[.int .i64 op] w fun e w' => e = .returned (.bool true) ∧ w' = w := by
  go_enter Tryz.func75, Tryz.ntmps75
  go_wp2
  go_ret
  exact ⟨rfl, rfl⟩
theorem known_no (op : Int) (h : op < 1 ∨ 17 < op) (w : World) : Calls Tryz.prog 75 #[.int .i64 op] w fun e w' => e = .returned (.bool false) ∧ w' = w := by
  by_cases h0 : 1 ≤ op
  · have h1 : ¬ op ≤ 17 := by omega
    go_enter Tryz.func75, Tryz.ntmps75
    go_wp2
    go_ret
    exact ⟨rfl, rfl⟩
  · go_enter Tryz.func75, Tryz.ntmps75
    go_wp2
    go_ret
    exact ⟨rfl, rfl⟩

set_option maxHeartbeats 2000000 in
theorem regs_any (op : Int) (h0 : 1 ≤ op) (h1 : op ≤ 17) (w : World) : Calls Tryz.prog 77 #[.int .i64 op] w fun e w' => e = .returned (.int .i64 (regsN op)) ∧ w' = w := by
  rcases op17 h0 h1 with rfl | rfl | rfl | rfl | rfl | rfl | rfl | rfl | rfl | rfl | rfl | rfl | rfl | rfl | rfl | rfl | rfl
  all_goals clear h0 h1
  all_goals go_enter Tryz.func77, Tryz.ntmps77
  all_goals go_wp2
  all_goals go_ret
  all_goals exact ⟨rfl, rfl⟩
set_option maxHeartbeats 2000000 in
theorem number_any (op : Int) (h0 : 1 ≤ op) (h1 : op ≤ 17) (w : World) : Calls Tryz.prog 76 #[.int .i64 op] w fun e w' => e = .returned (.tuple #[.bool (numB op), .bool (tgtB op)]) ∧ w' = w := by
  rcases op17 h0 h1 with rfl | rfl | rfl | rfl | rfl | rfl | rfl | rfl | rfl | rfl | rfl | rfl | rfl | rfl | rfl | rfl | rfl
  all_goals clear h0 h1
  all_goals go_enter Tryz.func76, Tryz.ntmps76
  all_goals go_wp2
  all_goals go_ret2
  all_goals exact ⟨rfl, rfl⟩
set_option maxHeartbeats 2000000 in
theorem where_any (op : Int) (h0 : 1 ≤ op) (h1 : op ≤ 17) (w : World) : Calls Tryz.prog 80 #[.int .i64 op] w fun e w' => e = .returned (.tuple #[.bool (outB op), .bool (insB op)]) ∧ w' = w := by
  rcases op17 h0 h1 with rfl | rfl | rfl | rfl | rfl | rfl | rfl | rfl | rfl | rfl | rfl | rfl | rfl | rfl | rfl | rfl | rfl
  all_goals clear h0 h1
  all_goals go_enter Tryz.func80, Tryz.ntmps80
  all_goals go_wp2
  all_goals go_ret2
  all_goals exact ⟨rfl, rfl⟩
end Go.Proofs.YtppejcfghlpbjaaGreatDoor


/- Walks of Info, Name, Named, Formed (package code). No statement of the seat is proved here. -/
namespace Go.Proofs.YtppejcfghlpbjaaGreatDoor
open Go.RowKit

theorem parts_any (op : Int) (h0 : 1 ≤ op) (h1 : op ≤ 17) (w : World) : Calls Tryz.prog 78 #[.int .i64 op] w fun e w' => e = .returned (.int .i64 (partsN op)) ∧ w' = w := by
  have hr := regsN_le h0 h1
  have R := regs_any op h0 h1
  have N := number_any op h0 h1
  unfold partsN
  generalize numB op = nb at *
  generalize regsN op = r at *
  obtain ⟨hr, -⟩ := hr
  cases nb
  all_goals
    go_enter Tryz.func78, Tryz.ntmps78
    go_wp2_with (first | (go_at_call 77; refine (R _).mono ?_; rintro e w' ⟨rfl, rfl⟩) | (go_at_call 76; refine (N _).mono ?_; rintro e w' ⟨rfl, rfl⟩))
    go_ret
    exact ⟨by first | rfl | simp, rfl⟩

theorem name_yes (op : Int) (h0 : 1 ≤ op) (h1 : op ≤ 17) (w : World) (hn : Nms w) : Calls Tryz.prog 54 #[.int .i64 op] w fun e w' => e = .returned (.string (nm op.toNat)) ∧ w' = w := by
  obtain ⟨k, rfl⟩ : ∃ k : Nat, op = k := ⟨op.toNat, by omega⟩
  have hc := hn k (by omega)
  clear hn
  go_enter Tryz.func54, Tryz.ntmps54
  go_wp2_with (first | (go_at_call 75; refine (known_yes _ h0 h1 _).mono ?_; rintro e w' ⟨rfl, rfl⟩))
  go_ret
  exact ⟨rfl, rfl⟩
theorem name_no (op : Int) (h : op < 1 ∨ 17 < op) (w : World) : Calls Tryz.prog 54 #[.int .i64 op] w fun e w' => e = .returned (.string ⟨#[]⟩) ∧ w' = w := by
  go_enter Tryz.func54, Tryz.ntmps54
  go_wp2_with (first | (go_at_call 75; refine (known_no _ h _).mono ?_; rintro e w' ⟨rfl, rfl⟩))
  go_ret
  exact ⟨rfl, rfl⟩

set_option maxRecDepth 100000 in
theorem info_no (op : Int) (h : op < 1 ∨ 17 < op) (w : World) : Calls Tryz.prog 58 #[.int .i64 op] w fun e w' => e = .returned (.tuple #[.agg #[.int .i64 0, .bool false, .bool false, .bool false, .bool false], .bool false]) ∧ Keeps (fun _ => False) w w' := by
  have hk := (Keeps.refl (fun _ => False) w).alloc (.cells #[.int .i64 0, .bool false, .bool false, .bool false, .bool false] 117)
  go_enter Tryz.func58, Tryz.ntmps58
  go_wp2_with (first | (go_at_call 75; refine (known_no _ h _).mono ?_; rintro e w' ⟨rfl, rfl⟩))
  refine ⟨rfl, .tuple #[.agg #[.int .i64 0, .bool false, .bool false, .bool false, .bool false], .bool false], ?_, rfl, hk⟩
  simp [results, Tryz.f58, go_sem]

/-- What an operation is made of. -/
def formV (op : Int) : Array Value := #[.int .i64 (regsN op), .bool (numB op), .bool (tgtB op), .bool (outB op), .bool (insB op)]

set_option maxRecDepth 100000 in
theorem info_yes (op : Int) (h0 : 1 ≤ op) (h1 : op ≤ 17) (w : World) : Calls Tryz.prog 58 #[.int .i64 op] w fun e w' => e = .returned (.tuple #[.agg #[.int .i64 (regsN op), .bool (numB op), .bool (tgtB op), .bool (outB op), .bool (insB op)], .bool true]) ∧ Keeps (fun _ => False) w w' := by
  have hk := ((Keeps.refl (fun _ => False) w).alloc (.cells (formV op) 117)).alloc (.cells (formV op) 117)
  have R := regs_any op h0 h1
  have N := number_any op h0 h1
  have O := where_any op h0 h1
  have K := known_yes op h0 h1
  unfold formV at hk
  clear h0 h1
  generalize regsN op = r at *
  generalize numB op = nb at *
  generalize tgtB op = tb at *
  generalize outB op = ob at *
  generalize insB op = ib at *
  go_enter Tryz.func58, Tryz.ntmps58
  go_wp2_with (first | (go_at_call 75; refine (K _).mono ?_; rintro e w' ⟨rfl, rfl⟩) | (go_at_call 77; refine (R _).mono ?_; rintro e w' ⟨rfl, rfl⟩) | (go_at_call 76; refine (N _).mono ?_; rintro e w' ⟨rfl, rfl⟩) | (go_at_call 80; refine (O _).mono ?_; rintro e w' ⟨rfl, rfl⟩))
  refine ⟨rfl, .tuple #[.agg #[.int .i64 r, .bool nb, .bool tb, .bool ob, .bool ib], .bool true], ?_, rfl, hk⟩
  simp [results, Tryz.f58, go_sem]

/-- An instruction. -/
structure I5 where
  op : Int
  a : Int
  b : Int
  c : Int
  n : Int
@[reducible] def I5.cells (i : I5) : Array Value := #[.int .i64 i.op, .int .i64 i.a, .int .i64 i.b, .int .i64 i.c, .int .u64 i.n]
def okR (m k r : Int) : Bool := if k < m then decide (0 ≤ r ∧ r < 8) else decide (r = 0)
def formedB (i : I5) : Bool := decide (1 ≤ i.op ∧ i.op ≤ 17) && (numB i.op || decide (i.n = 0)) && okR (regsN i.op) 0 i.a && okR (regsN i.op) 1 i.b && okR (regsN i.op) 2 i.c

theorem okR_yes {m k r : Int} (h : okR m k r = true) : (k < m ∧ 0 ≤ r ∧ r < 8) ∨ (m ≤ k ∧ r = 0) := by
  unfold okR at h
  split at h
  · simp at h; left; omega
  · simp at h; right; omega
theorem okR_no {m k r : Int} (h : okR m k r = false) : (k < m ∧ 0 ≤ r ∧ 8 ≤ r) ∨ (k < m ∧ r < 0) ∨ (m ≤ k ∧ r ≠ 0) := by
  unfold okR at h
  split at h
  · simp at h; by_cases h2 : 0 ≤ r
    · left; have := h h2; omega
    · right; left; omega
  · simp at h; right; right; omega
@[go_sem] theorem idx0 (x y z : Int) (w : World) : (Instr.index 124 (.agg #[.int .i64 x, .int .i64 y, .int .i64 z]) (.int .i64 0)).run Tryz.prog w = .ok (.int .i64 x) w := by
  simp [Instr.index, asIntOf, run_underlying Tryz.underlying124, go_sem]
@[go_sem] theorem idx1 (x y z : Int) (w : World) : (Instr.index 124 (.agg #[.int .i64 x, .int .i64 y, .int .i64 z]) (.int .i64 1)).run Tryz.prog w = .ok (.int .i64 y) w := by
  simp [Instr.index, asIntOf, run_underlying Tryz.underlying124, go_sem]
@[go_sem] theorem idx2 (x y z : Int) (w : World) : (Instr.index 124 (.agg #[.int .i64 x, .int .i64 y, .int .i64 z]) (.int .i64 2)).run Tryz.prog w = .ok (.int .i64 z) w := by
  simp [Instr.index, asIntOf, run_underlying Tryz.underlying124, go_sem]
set_option maxRecDepth 100000 in
set_option maxHeartbeats 2000000 in
theorem formed_any (i : I5) (w : World) : Calls Tryz.prog 53 #[.agg i.cells] w fun e w' => e = .returned (.bool (formedB i)) ∧ Keeps (fun _ => False) w w' := by
  obtain ⟨op, a, b, c, n⟩ := i
  by_cases ho : 1 ≤ op ∧ op ≤ 17
  · have h0 := ho.1
    have h1 := ho.2
    have hk0 := (Keeps.refl (fun _ => False) w).alloc (.cells #[.int .i64 op, .int .i64 a, .int .i64 b, .int .i64 c, .int .u64 n] 45)
    have I := info_yes op h0 h1
    have F : formedB ⟨op, a, b, c, n⟩ = ((numB op || decide (n = 0)) && okR (regsN op) 0 a && okR (regsN op) 1 b && okR (regsN op) 2 c) := by simp [formedB, ho]
    rw [F]
    clear F ho h0 h1
    generalize ((regsN op : Nat) : Int) = r at *
    generalize numB op = nb at *
    generalize tgtB op = tb at *
    generalize outB op = ob at *
    generalize insB op = ib at *
    go_enter Tryz.func53, Tryz.ntmps53
    go_wp2_with fail
    refine (I _).mono ?_
    rintro e w1 ⟨rfl, k1⟩
    have hk1 := (hk0.trans k1).alloc (.cells #[.int .i64 r, .bool nb, .bool tb, .bool ob, .bool ib] 117)
    have hb : w1.heap[w.heap.size]? = some (.cells #[.int .i64 op, .int .i64 a, .int .i64 b, .int .i64 c, .int .u64 n] 45 (0, 0)) := (k1.block _ (by simp) (fun f => f)).trans (MapKept.heap_alloc _ _).1
    have hlt := lt_of_block hb
    have c1 : (w1.alloc (.cells #[.int .i64 r, .bool nb, .bool tb, .bool ob, .bool ib] 117)).cell? ⟨w.heap.size, 1, none⟩ = some (.int .i64 a) := by rw [World.cell?_alloc_old _ _ _ (Nat.ne_of_lt hlt), cell_of_block hb]; rfl
    have c2 : (w1.alloc (.cells #[.int .i64 r, .bool nb, .bool tb, .bool ob, .bool ib] 117)).cell? ⟨w.heap.size, 2, none⟩ = some (.int .i64 b) := by rw [World.cell?_alloc_old _ _ _ (Nat.ne_of_lt hlt), cell_of_block hb]; rfl
    have c3 : (w1.alloc (.cells #[.int .i64 r, .bool nb, .bool tb, .bool ob, .bool ib] 117)).cell? ⟨w.heap.size, 3, none⟩ = some (.int .i64 c) := by rw [World.cell?_alloc_old _ _ _ (Nat.ne_of_lt hlt), cell_of_block hb]; rfl
    have c4 : (w1.alloc (.cells #[.int .i64 r, .bool nb, .bool tb, .bool ob, .bool ib] 117)).cell? ⟨w.heap.size, 4, none⟩ = some (.int .u64 n) := by rw [World.cell?_alloc_old _ _ _ (Nat.ne_of_lt hlt), cell_of_block hb]; rfl
    clear I k1 hk0 hb hlt
    by_cases hnn : nb = false ∧ n ≠ 0
    · obtain ⟨rfl, hn⟩ := hnn
      go_wp2_with fail
      go_ret
      exact ⟨by simp [hn], hk1⟩
    · have hz : (nb || decide (n = 0)) = true := by cases nb <;> simp_all
      have hz2 : nb = true ∨ (nb = false ∧ n = 0) := by cases nb <;> simp_all
      clear hnn hz
      rcases hz2 with rfl | ⟨rfl, rfl⟩
      · go_wp2_with fail
        go_loopw [32] (fun v wr => wr = w1.alloc (.cells #[.int .i64 r, .bool true, .bool tb, .bool ob, .bool ib] 117) ∧ ((v = .int .i64 0) ∨ (v = .int .i64 1 ∧ okR r 0 a = true) ∨ (v = .int .i64 2 ∧ okR r 0 a = true ∧ okR r 1 b = true) ∨ (v = .int .i64 3 ∧ okR r 0 a = true ∧ okR r 1 b = true ∧ okR r 2 c = true))) (fun v _ => 3 - (intOf v).toNat)
        case atStart => exact ⟨rfl, .inl rfl⟩
        case round =>
          obtain ⟨rfl, rfl | ⟨rfl, g0⟩ | ⟨rfl, g0, g1⟩ | ⟨rfl, g0, g1, g2⟩⟩ := hrel
          · skip
            by_cases hq : okR r 0 a = true
            · rcases okR_yes hq with ⟨e1, e2, e3⟩ | ⟨e1, e2⟩
              · have f2 : ¬ a < 0 := by omega
                have f3 : ¬ 8 ≤ a := by omega
                have f1 : ¬ r ≤ 0 := by omega
                clear e1 e2 e3
                go_wp2_with fail
                go_roundw
                · exact ⟨by first | rfl | trivial, .inr (.inl ⟨rfl, hq⟩)⟩
                · decide
              · subst e2
                have f1 : r ≤ 0 := by omega
                clear e1
                go_wp2_with fail
                go_roundw
                · exact ⟨by first | rfl | trivial, .inr (.inl ⟨rfl, hq⟩)⟩
                · decide
            · have hf : okR r 0 a = false := by simpa using hq
              rcases okR_no hf with ⟨e1, e2, e3⟩ | ⟨e1, e2⟩ | ⟨e1, e2⟩
              · have f1 : ¬ r ≤ 0 := by omega
                have f2 : ¬ a < 0 := by omega
                clear hq e1 e2
                go_wp2_with fail
                go_ret
                exact ⟨by first | (simp; done) | simp [hf], hk1⟩
              · have f1 : ¬ r ≤ 0 := by omega
                clear hq e1
                go_wp2_with fail
                go_ret
                exact ⟨by first | (simp; done) | simp [hf], hk1⟩
              · have f1 : r ≤ 0 := by omega
                clear hq e1
                go_wp2_with fail
                go_ret
                exact ⟨by first | (simp; done) | simp [hf], hk1⟩
          · skip
            by_cases hq : okR r 1 b = true
            · rcases okR_yes hq with ⟨e1, e2, e3⟩ | ⟨e1, e2⟩
              · have f2 : ¬ b < 0 := by omega
                have f3 : ¬ 8 ≤ b := by omega
                have f1 : ¬ r ≤ 1 := by omega
                clear e1 e2 e3
                go_wp2_with fail
                go_roundw
                · exact ⟨by first | rfl | trivial, .inr (.inr (.inl ⟨rfl, g0, hq⟩))⟩
                · decide
              · subst e2
                have f1 : r ≤ 1 := by omega
                clear e1
                go_wp2_with fail
                go_roundw
                · exact ⟨by first | rfl | trivial, .inr (.inr (.inl ⟨rfl, g0, hq⟩))⟩
                · decide
            · have hf : okR r 1 b = false := by simpa using hq
              rcases okR_no hf with ⟨e1, e2, e3⟩ | ⟨e1, e2⟩ | ⟨e1, e2⟩
              · have f1 : ¬ r ≤ 1 := by omega
                have f2 : ¬ b < 0 := by omega
                clear hq e1 e2
                go_wp2_with fail
                go_ret
                exact ⟨by first | (simp; done) | simp [hf], hk1⟩
              · have f1 : ¬ r ≤ 1 := by omega
                clear hq e1
                go_wp2_with fail
                go_ret
                exact ⟨by first | (simp; done) | simp [hf], hk1⟩
              · have f1 : r ≤ 1 := by omega
                clear hq e1
                go_wp2_with fail
                go_ret
                exact ⟨by first | (simp; done) | simp [hf], hk1⟩
          · skip
            by_cases hq : okR r 2 c = true
            · rcases okR_yes hq with ⟨e1, e2, e3⟩ | ⟨e1, e2⟩
              · have f2 : ¬ c < 0 := by omega
                have f3 : ¬ 8 ≤ c := by omega
                have f1 : ¬ r ≤ 2 := by omega
                clear e1 e2 e3
                go_wp2_with fail
                go_roundw
                · exact ⟨by first | rfl | trivial, .inr (.inr (.inr ⟨rfl, g0, g1, hq⟩))⟩
                · decide
              · subst e2
                have f1 : r ≤ 2 := by omega
                clear e1
                go_wp2_with fail
                go_roundw
                · exact ⟨by first | rfl | trivial, .inr (.inr (.inr ⟨rfl, g0, g1, hq⟩))⟩
                · decide
            · have hf : okR r 2 c = false := by simpa using hq
              rcases okR_no hf with ⟨e1, e2, e3⟩ | ⟨e1, e2⟩ | ⟨e1, e2⟩
              · have f1 : ¬ r ≤ 2 := by omega
                have f2 : ¬ c < 0 := by omega
                clear hq e1 e2
                go_wp2_with fail
                go_ret
                exact ⟨by first | (simp; done) | simp [hf], hk1⟩
              · have f1 : ¬ r ≤ 2 := by omega
                clear hq e1
                go_wp2_with fail
                go_ret
                exact ⟨by first | (simp; done) | simp [hf], hk1⟩
              · have f1 : r ≤ 2 := by omega
                clear hq e1
                go_wp2_with fail
                go_ret
                exact ⟨by first | (simp; done) | simp [hf], hk1⟩
          · go_wp2_with fail
            go_ret
            exact ⟨by simp_all, hk1⟩
      · go_wp2_with fail
        go_loopw [32] (fun v wr => wr = w1.alloc (.cells #[.int .i64 r, .bool false, .bool tb, .bool ob, .bool ib] 117) ∧ ((v = .int .i64 0) ∨ (v = .int .i64 1 ∧ okR r 0 a = true) ∨ (v = .int .i64 2 ∧ okR r 0 a = true ∧ okR r 1 b = true) ∨ (v = .int .i64 3 ∧ okR r 0 a = true ∧ okR r 1 b = true ∧ okR r 2 c = true))) (fun v _ => 3 - (intOf v).toNat)
        case atStart => exact ⟨rfl, .inl rfl⟩
        case round =>
          obtain ⟨rfl, rfl | ⟨rfl, g0⟩ | ⟨rfl, g0, g1⟩ | ⟨rfl, g0, g1, g2⟩⟩ := hrel
          · skip
            by_cases hq : okR r 0 a = true
            · rcases okR_yes hq with ⟨e1, e2, e3⟩ | ⟨e1, e2⟩
              · have f2 : ¬ a < 0 := by omega
                have f3 : ¬ 8 ≤ a := by omega
                have f1 : ¬ r ≤ 0 := by omega
                clear e1 e2 e3
                go_wp2_with fail
                go_roundw
                · exact ⟨by first | rfl | trivial, .inr (.inl ⟨rfl, hq⟩)⟩
                · decide
              · subst e2
                have f1 : r ≤ 0 := by omega
                clear e1
                go_wp2_with fail
                go_roundw
                · exact ⟨by first | rfl | trivial, .inr (.inl ⟨rfl, hq⟩)⟩
                · decide
            · have hf : okR r 0 a = false := by simpa using hq
              rcases okR_no hf with ⟨e1, e2, e3⟩ | ⟨e1, e2⟩ | ⟨e1, e2⟩
              · have f1 : ¬ r ≤ 0 := by omega
                have f2 : ¬ a < 0 := by omega
                clear hq e1 e2
                go_wp2_with fail
                go_ret
                exact ⟨by first | (simp; done) | simp [hf], hk1⟩
              · have f1 : ¬ r ≤ 0 := by omega
                clear hq e1
                go_wp2_with fail
                go_ret
                exact ⟨by first | (simp; done) | simp [hf], hk1⟩
              · have f1 : r ≤ 0 := by omega
                clear hq e1
                go_wp2_with fail
                go_ret
                exact ⟨by first | (simp; done) | simp [hf], hk1⟩
          · skip
            by_cases hq : okR r 1 b = true
            · rcases okR_yes hq with ⟨e1, e2, e3⟩ | ⟨e1, e2⟩
              · have f2 : ¬ b < 0 := by omega
                have f3 : ¬ 8 ≤ b := by omega
                have f1 : ¬ r ≤ 1 := by omega
                clear e1 e2 e3
                go_wp2_with fail
                go_roundw
                · exact ⟨by first | rfl | trivial, .inr (.inr (.inl ⟨rfl, g0, hq⟩))⟩
                · decide
              · subst e2
                have f1 : r ≤ 1 := by omega
                clear e1
                go_wp2_with fail
                go_roundw
                · exact ⟨by first | rfl | trivial, .inr (.inr (.inl ⟨rfl, g0, hq⟩))⟩
                · decide
            · have hf : okR r 1 b = false := by simpa using hq
              rcases okR_no hf with ⟨e1, e2, e3⟩ | ⟨e1, e2⟩ | ⟨e1, e2⟩
              · have f1 : ¬ r ≤ 1 := by omega
                have f2 : ¬ b < 0 := by omega
                clear hq e1 e2
                go_wp2_with fail
                go_ret
                exact ⟨by first | (simp; done) | simp [hf], hk1⟩
              · have f1 : ¬ r ≤ 1 := by omega
                clear hq e1
                go_wp2_with fail
                go_ret
                exact ⟨by first | (simp; done) | simp [hf], hk1⟩
              · have f1 : r ≤ 1 := by omega
                clear hq e1
                go_wp2_with fail
                go_ret
                exact ⟨by first | (simp; done) | simp [hf], hk1⟩
          · skip
            by_cases hq : okR r 2 c = true
            · rcases okR_yes hq with ⟨e1, e2, e3⟩ | ⟨e1, e2⟩
              · have f2 : ¬ c < 0 := by omega
                have f3 : ¬ 8 ≤ c := by omega
                have f1 : ¬ r ≤ 2 := by omega
                clear e1 e2 e3
                go_wp2_with fail
                go_roundw
                · exact ⟨by first | rfl | trivial, .inr (.inr (.inr ⟨rfl, g0, g1, hq⟩))⟩
                · decide
              · subst e2
                have f1 : r ≤ 2 := by omega
                clear e1
                go_wp2_with fail
                go_roundw
                · exact ⟨by first | rfl | trivial, .inr (.inr (.inr ⟨rfl, g0, g1, hq⟩))⟩
                · decide
            · have hf : okR r 2 c = false := by simpa using hq
              rcases okR_no hf with ⟨e1, e2, e3⟩ | ⟨e1, e2⟩ | ⟨e1, e2⟩
              · have f1 : ¬ r ≤ 2 := by omega
                have f2 : ¬ c < 0 := by omega
                clear hq e1 e2
                go_wp2_with fail
                go_ret
                exact ⟨by first | (simp; done) | simp [hf], hk1⟩
              · have f1 : ¬ r ≤ 2 := by omega
                clear hq e1
                go_wp2_with fail
                go_ret
                exact ⟨by first | (simp; done) | simp [hf], hk1⟩
              · have f1 : r ≤ 2 := by omega
                clear hq e1
                go_wp2_with fail
                go_ret
                exact ⟨by first | (simp; done) | simp [hf], hk1⟩
          · go_wp2_with fail
            go_ret
            exact ⟨by simp_all, hk1⟩
  · have h : op < 1 ∨ 17 < op := by omega
    have F : formedB ⟨op, a, b, c, n⟩ = false := by simp [formedB, ho]
    rw [F]
    have hk0 := (Keeps.refl (fun _ => False) w).alloc (.cells #[.int .i64 op, .int .i64 a, .int .i64 b, .int .i64 c, .int .u64 n] 45)
    go_enter Tryz.func53, Tryz.ntmps53
    go_wp2_with fail
    refine (info_no _ h _).mono ?_
    rintro e w1 ⟨rfl, k1⟩
    have hk1 := (hk0.trans k1).alloc (.cells #[.int .i64 0, .bool false, .bool false, .bool false, .bool false] 117)
    go_wp2_with fail
    go_ret
    exact ⟨rfl, hk1⟩
end Go.Proofs.YtppejcfghlpbjaaGreatDoor
