
/-
  Plain facts on blocks of memory: a row of words as it lies in the heap, and what a store, a new block and a draw do to it. No statement of the seat is proved here.
-/
import Derived.WalkKit
import Derived.Deep.Draws
namespace Go.Proofs.Ytiacennkjjfifab
open Go.RowKit

/-- Words as cells. -/
def u64s (ws : List Int) : Array Value := (ws.map (Value.int .u64)).toArray

theorem u64s_size (ws : List Int) : (u64s ws).size = ws.length := by simp [u64s]
theorem u64s_get (ws : List Int) (i : Nat) (h : i < ws.length) : (u64s ws)[i]? = some (.int .u64 (ws[i]?.getD 0)) := by
  simp [u64s, h]
theorem u64s_set (ws : List Int) (i : Nat) (v : Int) : (u64s ws).setIfInBounds i (.int .u64 v) = u64s (ws.set i v) := by
  simp [u64s, List.map_set]

theorem cell_of_block {w : World} {b : Nat} {c : Array Value} {t : TypeId} {fr : Nat × Nat} (h : w.heap[b]? = some (.cells c t fr)) (i : Nat) : w.cell? ⟨b, i, none⟩ = c[i]? := by
  simp [World.cell?, h]
theorem frozen_of_block {w : World} {b : Nat} {c : Array Value} {t : TypeId} (h : w.heap[b]? = some (.cells c t (0, 0))) (i : Nat) : w.frozen? ⟨b, i, none⟩ = false := by
  simp [World.frozen?, h]
theorem lt_of_block {w : World} {b : Nat} {o : Obj} (h : w.heap[b]? = some o) : b < w.heap.size := (Array.getElem?_eq_some_iff.1 h).1
theorem block_set {w : World} {b : Nat} {c : Array Value} {t : TypeId} {fr : Nat × Nat} (h : w.heap[b]? = some (.cells c t fr)) (i : Nat) (v : Value) :
    (w.setCell ⟨b, i, none⟩ v).heap[b]? = some (.cells (c.setIfInBounds i v) t fr) := by
  simp [World.setCell, Array.getElem?_modify, h]

/-- All blocks that were there lie as they lay, but those of S; the streams are as they were. -/
structure Keeps (S : Nat → Prop) (w w' : World) : Prop where
  os : w'.os = w.os
  tape : w'.tape = w.tape
  output : w'.output = w.output
  size : w.heap.size ≤ w'.heap.size
  block : ∀ k, k < w.heap.size → ¬ S k → w'.heap[k]? = w.heap[k]?

theorem Keeps.refl (S : Nat → Prop) (w : World) : Keeps S w w := ⟨rfl, rfl, rfl, Nat.le_refl _, fun _ _ _ => rfl⟩
theorem Keeps.trans {S : Nat → Prop} {a b c : World} (h : Keeps S a b) (k : Keeps S b c) : Keeps S a c :=
  ⟨k.os.trans h.os, k.tape.trans h.tape, k.output.trans h.output, Nat.le_trans h.size k.size, fun i hi hs => (k.block i (Nat.lt_of_lt_of_le hi h.size) hs).trans (h.block i hi hs)⟩
theorem Keeps.mono {S T : Nat → Prop} {a b : World} (h : Keeps S a b) (hst : ∀ k, k < a.heap.size → S k → T k) : Keeps T a b :=
  ⟨h.os, h.tape, h.output, h.size, fun i hi ht => h.block i hi (fun hs => ht (hst i hi hs))⟩
theorem Keeps.alloc {S : Nat → Prop} {a w : World} (h : Keeps S a w) (o : Obj) : Keeps S a (w.alloc o) :=
  h.trans ⟨rfl, rfl, rfl, by simp, fun k hk _ => Below.heap_alloc _ _ _ hk⟩
theorem Keeps.setCell {S : Nat → Prop} {a w : World} (h : Keeps S a w) {p : Addr} (hp : a.heap.size ≤ p.block ∨ S p.block) (v : Value) : Keeps S a (w.setCell p v) :=
  ⟨h.os, h.tape, h.output, by simpa using h.size, fun k hk hs => (Below.heap_setCell _ _ _ _ (by
    intro e; rcases hp with hp | hp
    · omega
    · exact hs (e ▸ hp))).trans (h.block k hk hs)⟩
theorem Keeps.drew {S : Nat → Prop} {a w : World} (h : Keeps S a w) : Keeps S a w.drew := ⟨h.os, h.tape, h.output, h.size, h.block⟩
theorem Keeps.drewN {S : Nat → Prop} {a w : World} (h : Keeps S a w) (n : Nat) : Keeps S a (w.drewN n) := ⟨h.os, h.tape, h.output, h.size, h.block⟩
theorem Keeps.grown {S : Nat → Prop} {a w w' : World} {row : Option Nat} (h : Keeps S a w) (hg : w.grownBy w' row) (hr : ∀ k, row = some k → a.heap.size ≤ k ∨ S k) : Keeps S a w' :=
  ⟨hg.os.trans h.os, hg.tape.trans h.tape, hg.output.trans h.output, Nat.le_trans h.size hg.size, fun k hk hs => (hg.block k (Nat.lt_of_lt_of_le hk h.size) (fun e => by
    rcases hr k e.symm with h1 | h1
    · omega
    · exact hs h1)).trans (h.block k hk hs)⟩
theorem Keeps.below {S : Nat → Prop} {a w : World} (h : Keeps S a w) (B : Nat) (hB : B ≤ a.heap.size) (hS : ∀ k, S k → B ≤ k) : Below B a w :=
  ⟨h.os, h.tape, h.output, h.size, fun k hk => h.block k (by omega) (fun hs => by have := hS k hs; omega)⟩
theorem Keeps.of_below {a w : World} (h : Below a.heap.size a w) (S : Nat → Prop) : Keeps S a w := ⟨h.os, h.tape, h.output, h.size, fun k hk _ => h.block k hk⟩

/-- A row of the program's, in block b, its words in block c: the words, how many accesses. -/
structure RowAt (w : World) (t e : TypeId) (b c : Nat) (ws : List Int) (n : Int) : Prop where
  row : w.heap[b]? = some (.cells #[.slice (some ⟨c, 0, none⟩) ws.length ws.length, .int .u64 n] t (0, 0))
  words : w.heap[c]? = some (.cells (u64s ws) e (0, 0))
  ne : b ≠ c
  pos : 1 ≤ ws.length
  le : ws.length ≤ 65536

section
variable {w w' : World} {t e : TypeId} {b c : Nat} {ws : List Int} {n : Int}
theorem RowAt.cell0 (h : RowAt w t e b c ws n) : w.cell? ⟨b, 0, none⟩ = some (.slice (some ⟨c, 0, none⟩) ws.length ws.length) := by rw [cell_of_block h.row]; rfl
theorem RowAt.cell1 (h : RowAt w t e b c ws n) : w.cell? ⟨b, 1, none⟩ = some (.int .u64 n) := by rw [cell_of_block h.row]; rfl
theorem RowAt.frozen (h : RowAt w t e b c ws n) (i : Nat) : w.frozen? ⟨b, i, none⟩ = false := frozen_of_block h.row i
theorem RowAt.wcell (h : RowAt w t e b c ws n) (i : Nat) (hi : i < ws.length) : w.cell? ⟨c, i, none⟩ = some (.int .u64 (ws[i]?.getD 0)) := by rw [cell_of_block h.words, u64s_get ws i hi]
theorem RowAt.wfrozen (h : RowAt w t e b c ws n) (i : Nat) : w.frozen? ⟨c, i, none⟩ = false := frozen_of_block h.words i
theorem RowAt.ltb (h : RowAt w t e b c ws n) : b < w.heap.size := lt_of_block h.row
theorem RowAt.ltc (h : RowAt w t e b c ws n) : c < w.heap.size := lt_of_block h.words
theorem RowAt.kept {S : Nat → Prop} (h : RowAt w t e b c ws n) (k : Keeps S w w') (hb : ¬ S b) (hc : ¬ S c) : RowAt w' t e b c ws n :=
  ⟨(k.block b h.ltb hb).trans h.row, (k.block c h.ltc hc).trans h.words, h.ne, h.pos, h.le⟩
theorem RowAt.count (h : RowAt w t e b c ws n) (m : Int) : RowAt (w.setCell ⟨b, 1, none⟩ (.int .u64 m)) t e b c ws m :=
  ⟨block_set h.row 1 _, (Below.heap_setCell _ _ _ _ (Ne.symm h.ne)).trans h.words, h.ne, h.pos, h.le⟩
theorem RowAt.store (h : RowAt w t e b c ws n) (i : Nat) (v : Int) : RowAt (w.setCell ⟨c, i, none⟩ (.int .u64 v)) t e b c (ws.set i v) n :=
  ⟨by rw [List.length_set]; exact (Below.heap_setCell _ _ _ _ h.ne).trans h.row, by rw [block_set h.words i (.int .u64 v), u64s_set], h.ne, by rw [List.length_set]; exact h.pos, by rw [List.length_set]; exact h.le⟩
theorem RowAt.alloc (h : RowAt w t e b c ws n) (o : Obj) : RowAt (w.alloc o) t e b c ws n :=
  h.kept (S := fun _ => False) ((Keeps.refl _ w).alloc o) (fun f => f) (fun f => f)
end

theorem madeCells_u64 (n : Nat) : madeCells (Value.int .u64 0).cells n = u64s (List.replicate n 0) := by
  apply Array.ext
  · simp [size_madeCells, u64s]
  · intro i h1 h2
    simp [madeCells, u64s, Value.cells, Nat.mod_one]

end Go.Proofs.Ytiacennkjjfifab
