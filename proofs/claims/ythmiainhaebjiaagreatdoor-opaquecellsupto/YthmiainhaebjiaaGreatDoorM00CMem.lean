/-
  No statement of the seat is proved here. (Several texts in one: CMem, CdA, CdB, CdC, CdD, CdE, EvA, EvBa, EvB.)
-/
import Derived.WalkKit
import Derived.Deep.Draws
import Derived.Test.YthmiainhaebjiaaGreatDoorProg
import Derived.WalkSpells
import Derived.WalkLawsBesides
import Derived.Lib.ItoaNum
import Derived.Laws.IdiomStrings
import Derived.Deep.RegionHeld3
import Derived.Lib.ItoaLen
import Derived.Shelf.RegionOpen
import Derived.Deep.Upon
import Derived.Laws.AppendOwn
import Derived.OwnWalk

/-
  Plain facts on blocks of memory: a row of words as it lies in the heap, and what a store, a new block and a draw do to it. No statement of the seat is proved here.
-/
namespace Go.Proofs.YthmiainhaebjiaaGreatDoor
open Go.RowKit

/-- Words as cells. -/
def u64s (ws : List Int) : Array Value := (ws.map (Value.int .u64)).toArray

theorem u64s_set (ws : List Int) (i : Nat) (v : Int) : (u64s ws).setIfInBounds i (.int .u64 v) = u64s (ws.set i v) := by
  simp [u64s, List.map_set]

theorem cell_of_block {w : World} {b : Nat} {c : Array Value} {t : TypeId} {fr : Nat × Nat} (h : w.heap[b]? = some (.cells c t fr)) (i : Nat) : w.cell? ⟨b, i, none⟩ = c[i]? := by
  simp [World.cell?, h]
theorem frozen_of_block {w : World} {b : Nat} {c : Array Value} {t : TypeId} (h : w.heap[b]? = some (.cells c t (0, 0))) (i : Nat) : w.frozen? ⟨b, i, none⟩ = false := by
  simp [World.frozen?, h]
theorem lt_of_block {w : World} {b : Nat} {o : Obj} (h : w.heap[b]? = some o) : b < w.heap.size := (Array.getElem?_eq_some_iff.1 h).1
theorem block_set {w : World} {b : Nat} {c : Array Value} {t : TypeId} {fr : Nat × Nat} (h : w.heap[b]? = some (.cells c t fr)) (i : Nat) (v : Value) :
    (w.setCell ⟨b, i, none⟩ v).heap[b]? = some (.cells (c.setIfInBounds i v) t fr) := by
  simp [World.setCell, Array.getElem?_modify, h]

/-- All blocks that were there lie as they lay, but those of S; the streams are as they were. -/
structure Keeps (S : Nat → Prop) (w w' : World) : Prop where
  os : w'.os = w.os
  tape : w'.tape = w.tape
  output : w'.output = w.output
  size : w.heap.size ≤ w'.heap.size
  block : ∀ k, k < w.heap.size → ¬ S k → w'.heap[k]? = w.heap[k]?

theorem Keeps.refl (S : Nat → Prop) (w : World) : Keeps S w w := ⟨rfl, rfl, rfl, Nat.le_refl _, fun _ _ _ => rfl⟩
theorem Keeps.trans {S : Nat → Prop} {a b c : World} (h : Keeps S a b) (k : Keeps S b c) : Keeps S a c :=
  ⟨k.os.trans h.os, k.tape.trans h.tape, k.output.trans h.output, Nat.le_trans h.size k.size, fun i hi hs => (k.block i (Nat.lt_of_lt_of_le hi h.size) hs).trans (h.block i hi hs)⟩
theorem Keeps.mono {S T : Nat → Prop} {a b : World} (h : Keeps S a b) (hst : ∀ k, k < a.heap.size → S k → T k) : Keeps T a b :=
  ⟨h.os, h.tape, h.output, h.size, fun i hi ht => h.block i hi (fun hs => ht (hst i hi hs))⟩
theorem Keeps.alloc {S : Nat → Prop} {a w : World} (h : Keeps S a w) (o : Obj) : Keeps S a (w.alloc o) :=
  h.trans ⟨rfl, rfl, rfl, by simp, fun k hk _ => Below.heap_alloc _ _ _ hk⟩
theorem Keeps.setCell {S : Nat → Prop} {a w : World} (h : Keeps S a w) {p : Addr} (hp : a.heap.size ≤ p.block ∨ S p.block) (v : Value) : Keeps S a (w.setCell p v) :=
  ⟨h.os, h.tape, h.output, by simpa using h.size, fun k hk hs => (Below.heap_setCell _ _ _ _ (by
    intro e; rcases hp with hp | hp
    · omega
    · exact hs (e ▸ hp))).trans (h.block k hk hs)⟩
theorem Keeps.drew {S : Nat → Prop} {a w : World} (h : Keeps S a w) : Keeps S a w.drew := ⟨h.os, h.tape, h.output, h.size, h.block⟩
theorem Keeps.drewN {S : Nat → Prop} {a w : World} (h : Keeps S a w) (n : Nat) : Keeps S a (w.drewN n) := ⟨h.os, h.tape, h.output, h.size, h.block⟩
theorem Keeps.grown {S : Nat → Prop} {a w w' : World} {row : Option Nat} (h : Keeps S a w) (hg : w.grownBy w' row) (hr : ∀ k, row = some k → a.heap.size ≤ k ∨ S k) : Keeps S a w' :=
  ⟨hg.os.trans h.os, hg.tape.trans h.tape, hg.output.trans h.output, Nat.le_trans h.size hg.size, fun k hk hs => (hg.block k (Nat.lt_of_lt_of_le hk h.size) (fun e => by
    rcases hr k e.symm with h1 | h1
    · omega
    · exact hs h1)).trans (h.block k hk hs)⟩
theorem Keeps.below {S : Nat → Prop} {a w : World} (h : Keeps S a w) (B : Nat) (hB : B ≤ a.heap.size) (hS : ∀ k, S k → B ≤ k) : Below B a w :=
  ⟨h.os, h.tape, h.output, h.size, fun k hk => h.block k (by omega) (fun hs => by have := hS k hs; omega)⟩
/-- A row of the program's, in block b, its words in block c: the words, how many accesses. -/
structure RowAt (w : World) (t e : TypeId) (b c : Nat) (ws : List Int) (n : Int) : Prop where
  row : w.heap[b]? = some (.cells #[.slice (some ⟨c, 0, none⟩) ws.length ws.length, .int .u64 n] t (0, 0))
  words : w.heap[c]? = some (.cells (u64s ws) e (0, 0))
  ne : b ≠ c
  pos : 1 ≤ ws.length
  le : ws.length ≤ 65536

section
variable {w w' : World} {t e : TypeId} {b c : Nat} {ws : List Int} {n : Int}
theorem RowAt.frozen (h : RowAt w t e b c ws n) (i : Nat) : w.frozen? ⟨b, i, none⟩ = false := frozen_of_block h.row i
theorem RowAt.ltb (h : RowAt w t e b c ws n) : b < w.heap.size := lt_of_block h.row
theorem RowAt.ltc (h : RowAt w t e b c ws n) : c < w.heap.size := lt_of_block h.words
theorem RowAt.kept {S : Nat → Prop} (h : RowAt w t e b c ws n) (k : Keeps S w w') (hb : ¬ S b) (hc : ¬ S c) : RowAt w' t e b c ws n :=
  ⟨(k.block b h.ltb hb).trans h.row, (k.block c h.ltc hc).trans h.words, h.ne, h.pos, h.le⟩
theorem RowAt.count (h : RowAt w t e b c ws n) (m : Int) : RowAt (w.setCell ⟨b, 1, none⟩ (.int .u64 m)) t e b c ws m :=
  ⟨block_set h.row 1 _, (Below.heap_setCell _ _ _ _ (Ne.symm h.ne)).trans h.words, h.ne, h.pos, h.le⟩
theorem RowAt.store (h : RowAt w t e b c ws n) (i : Nat) (v : Int) : RowAt (w.setCell ⟨c, i, none⟩ (.int .u64 v)) t e b c (ws.set i v) n :=
  ⟨by rw [List.length_set]; exact (Below.heap_setCell _ _ _ _ h.ne).trans h.row, by rw [block_set h.words i (.int .u64 v), u64s_set], h.ne, by rw [List.length_set]; exact h.pos, by rw [List.length_set]; exact h.le⟩
theorem RowAt.alloc (h : RowAt w t e b c ws n) (o : Obj) : RowAt (w.alloc o) t e b c ws n :=
  h.kept (S := fun _ => False) ((Keeps.refl _ w).alloc o) (fun f => f) (fun f => f)
end

end Go.Proofs.YthmiainhaebjiaaGreatDoor


/- Walks of the program's small functions on operations (package code): known, regs, number, where, parts, Info, Name, Named, Formed. No statement of the seat is proved here. -/
namespace Go.Proofs.YthmiainhaebjiaaGreatDoor
open Go.RowKit

/-- The operations' names, by their numbers. -/
def nms : List (List UInt8) := [[], [99, 111, 110, 115, 116], [109, 111, 118, 101], [97, 100, 100], [115, 117, 98], [109, 117, 108], [108, 101, 115, 115], [101, 113, 117, 97, 108], [106, 117, 109, 112], [122, 101, 114, 111], [108, 111, 97, 100], [115, 116, 111, 114, 101], [98, 101, 103, 105, 110], [103, 101, 116], [112, 117, 116], [101, 110, 100], [97, 98, 111, 114, 116], [104, 97, 108, 116]]
def nm (i : Nat) : ByteArray := ⟨((nms[i]?).getD []).toArray⟩
/-- The program's table of names, where it lies. -/
def Nms (w : World) : Prop := ∀ i : Nat, i < 18 → w.cell? ⟨0, i, none⟩ = some (.string (nm i))
theorem Nms.lt {w : World} (h : Nms w) : 0 < w.heap.size := World.block_lt_of_cell? _ _ (h 0 (by decide))
theorem Nms.below {w w' : World} (h : Nms w) (k : Below w.heap.size w w') : Nms w' := by
  intro i hi
  rw [← h i hi]
  simp only [World.cell?, k.block 0 h.lt]
theorem Nms.keeps {w w' : World} {S : Nat → Prop} (h : Nms w) (k : Keeps S w w') (hs : ¬ S 0) : Nms w' := by
  intro i hi
  rw [← h i hi]
  simp only [World.cell?, k.block 0 h.lt hs]

end Go.Proofs.YthmiainhaebjiaaGreatDoor


/- Walks of Info, Name, Named, Formed (package code). No statement of the seat is proved here. -/
namespace Go.Proofs.YthmiainhaebjiaaGreatDoor
open Go.RowKit

/-- An instruction. -/
structure I5 where
  op : Int
  a : Int
  b : Int
  c : Int
  n : Int
@[reducible] def I5.cells (i : I5) : Array Value := #[.int .i64 i.op, .int .i64 i.a, .int .i64 i.b, .int .i64 i.c, .int .u64 i.n]
def okR (m k r : Int) : Bool := if k < m then decide (0 ≤ r ∧ r < 8) else decide (r = 0)
end Go.Proofs.YthmiainhaebjiaaGreatDoor


/- Walks of digits (package code): a number in decimal digits. No statement of the seat is proved here. -/
namespace Go.Proofs.YthmiainhaebjiaaGreatDoor
open Go.RowKit

def zeros20 : Array Value := #[.int .u8 0, .int .u8 0, .int .u8 0, .int .u8 0, .int .u8 0, .int .u8 0, .int .u8 0, .int .u8 0, .int .u8 0, .int .u8 0, .int .u8 0, .int .u8 0, .int .u8 0, .int .u8 0, .int .u8 0, .int .u8 0, .int .u8 0, .int .u8 0, .int .u8 0, .int .u8 0]

/-- Bytes of a block from place m on. -/
def Tail (c : Array Value) (m : Nat) (l : List UInt8) : Prop := c.size = 20 ∧ m + l.length = 20 ∧ ∀ j (hj : j < l.length), c[m + j]? = some (.int .u8 (l[j]).toNat)
theorem Tail.nil : Tail zeros20 20 [] := ⟨rfl, rfl, fun j hj => by simp at hj⟩
theorem Tail.cons {c : Array Value} {m : Nat} {l : List UInt8} (h : Tail c (m + 1) l) (x : UInt8) : Tail (c.setIfInBounds m (.int .u8 x.toNat)) m (x :: l) := by
  obtain ⟨h1, h2, h3⟩ := h
  refine ⟨by simpa using h1, by simp; omega, ?_⟩
  intro j hj
  cases j with
  | zero => simp [Array.getElem?_setIfInBounds, h1]; omega
  | succ j =>
    rw [Array.getElem?_setIfInBounds_ne (by omega)]
    have := h3 j (by simpa using hj)
    rw [show m + (j + 1) = m + 1 + j by omega, this]
    simp

end Go.Proofs.YthmiainhaebjiaaGreatDoor


/- Walks of numbers and Text (package code). No statement of the seat is proved here. -/
namespace Go.Proofs.YthmiainhaebjiaaGreatDoor
open Go.RowKit Go.Shelf

end Go.Proofs.YthmiainhaebjiaaGreatDoor


/- Rows of the call's own that grow, of elements of any size; walks of sevens (package code). No statement of the seat is proved here. -/
namespace Go.Proofs.YthmiainhaebjiaaGreatDoor
open Go.RowKit Go.Shelf

/-- An append whose run is known, at its place in the walk. -/
theorem wpList_append_run {P : Program} {w : World} {ops : Array Oper} {rest : List Oper} {o : Oper} {a : Act} {Q : Exit → Act → World → Prop} (hgd : o.guard = none) (s x : Operand) (t : TypeId)
    (ho : o.op = .call { callee := .builtin .append, args := #[s, x], argTypes := #[t, t] }) {v y v' : Value} {w' : World} (hs : a.eval s = v) (hx : a.eval x = y)
    (hrun : (Builtin.append_ #[t, t] o.type #[v, y]).run P w = .ok v' w') (h : wpList P ops Q rest (a.put o.dst v') w') : wpList P ops Q (o :: rest) a w :=
  wpList_plain hgd fun K hK => by
    unfold Oper.wp execOp
    simp only [ho, resolve, invoke, builtin, Sem.run_bind, Sem.run_pure, Result.andThen_ok, List.map_toArray, List.map_cons, List.map_nil, hs, hx, hrun]
    exact hK _ _ h

theorem addr_add (b o i : Nat) : (⟨b, o, none⟩ : Addr).add i = ⟨b, o + i, none⟩ := by unfold Addr.add; split <;> simp_all

theorem own_block {w : World} {base size : Nat} {e : TypeId} {v : Value} {n : Nat} {xs : List Value} (h : w.ownsRow base e size v n xs) {g : Nat} (hg : v.ownBlock = some g) : g < w.heap.size ∧ base ≤ g := by
  rcases h.2 with ⟨rfl, rfl⟩ | ⟨g', cap, cur, rfl, h1, h2, _⟩
  · cases hg
  · cases hg; exact ⟨lt_of_block h2, h1⟩
theorem own_keep {w w' : World} {base size : Nat} {e : TypeId} {v : Value} {n : Nat} {xs : List Value} (h : w.ownsRow base e size v n xs) (hk : ∀ g, v.ownBlock = some g → w'.heap[g]? = w.heap[g]?) : w'.ownsRow base e size v n xs := by
  refine ⟨h.1, ?_⟩
  rcases h.2 with ⟨rfl, rfl⟩ | ⟨g', cap, cur, rfl, h1, h2, h3⟩
  · exact .inl ⟨rfl, rfl⟩
  · exact .inr ⟨g', cap, cur, rfl, h1, (hk g' rfl).trans h2, h3⟩
theorem own_keeps {w w' : World} {base size : Nat} {e : TypeId} {v : Value} {n : Nat} {xs : List Value} {S : Nat → Prop} (h : w.ownsRow base e size v n xs) (k : Keeps S w w') (hs : ∀ g, v.ownBlock = some g → ¬ S g) : w'.ownsRow base e size v n xs :=
  own_keep h fun g hg => k.block g (own_block h hg).1 (hs g hg)

/-- More behind a row of the call's own. -/
theorem own_push {P : Program} (w : World) (base : Nat) (t ty e : TypeId) (z : Value) (size bytes : Nat) (ht : P.underlying t = some (.slice e)) (hinfo : (P.info? e).map (fun i => (i.zero, i.size, i.bytes)) = some (some z, size, bytes)) (hzs : z.cells.size = size) (hsz : 0 < size)
    (v : Value) (n : Nat) (xs : List Value) (hown : w.ownsRow base e size v n xs) (ad : Addr) (m c : Nat) (us : List Value) (hl : us.length = m * size) (hu : ∀ (j : Nat) (u : Value), us[j]? = some u → w.cell? (ad.add j) = some u) (h1 : ∀ u ∈ us, u.oneCell' = true) (hbytes : (n + m) * bytes ≤ 140737488355328) (hb1 : 0 < bytes) (hbase : base ≤ w.heap.size) :
    ∃ v' w', (Builtin.append_ #[t, t] ty #[v, .slice (some ad) m c]).run P w = .ok v' w' ∧ w'.ownsRow base e size v' (n + m) (xs ++ us) ∧ w.grownBy w' v.ownBlock ∧ (v'.ownBlock = v.ownBlock ∨ ∀ g, v'.ownBlock = some g → w.heap.size ≤ g) := by
  obtain ⟨i, hi, hz0, hz1, hz2⟩ := info_parts hinfo
  have hnm : n + m ≤ 140737488355328 := Nat.le_trans (Nat.le_mul_of_pos_right _ hb1) hbytes
  have h63 : n + m ≤ maxLen := by simp only [maxLen]; omega
  obtain ⟨v', w', r1, r2, r3, _⟩ := run_append_own (P := P) w base t ty e i z size bytes ht hi hz0 hz1 hz2 hzs hsz v n xs hown ad m c us hl hu h1 h63 hbytes hbase
  refine ⟨v', w', r1, r2, r3, ?_⟩
  rcases hown.2 with ⟨rfl, rfl⟩ | ⟨g, cap, cur, rfl, q1, q2, q3, q4, q5, q6⟩
  · obtain ⟨v2, w2, s1, s2, _⟩ := run_append_own (P := P) w w.heap.size t ty e i z size bytes ht hi hz0 hz1 hz2 hzs hsz (.slice none 0 0) 0 xs ⟨hown.1, .inl ⟨rfl, rfl⟩⟩ ad m c us hl hu h1 h63 hbytes (Nat.le_refl _)
    rw [r1] at s1
    injection s1 with e1 e2
    subst e1; subst e2
    exact .inr fun g hg => (own_block s2 hg).2
  · by_cases hc : n + m ≤ cap
    · have s1 := run_append_room (P := P) w t ty e i ht hi g n cap cur q2 ad m c us (by rw [hz1]; exact hl) hu h1 hc (by rw [hz1, q5, hl, ← Nat.add_mul]; exact Nat.mul_le_mul_right _ hc)
      rw [r1] at s1
      injection s1 with e1 e2
      exact .inl (by rw [e1]; rfl)
    · have s1 := run_append_grow (P := P) w t ty e i z ht hi hz0 ⟨g, 0, none⟩ n cap xs (by rw [hz1]; exact hown.1) (fun j v0 hj => by
        rw [addr_add, Nat.zero_add, cell_of_block q2]
        have hlt : j < n * size := by
          have := (List.getElem?_eq_some_iff.1 hj).1
          rw [hown.1] at this; omega
        rw [← q6, List.getElem?_take_of_lt hlt] at hj
        simpa using hj) ad m c us (by rw [hz1]; exact hl) hu (by omega) (by simp only [maxLen] at h63; omega) (growslice_fits (by omega) (by rw [hz2]; exact hbytes))
      rw [r1] at s1
      injection s1 with e1 e2
      exact .inr fun g' hg => by rw [e1] at hg; cases hg; exact Nat.le_refl _

/-- A row of bytes of the call's own. -/
structure Bts (w : World) (base : Nat) (v : Value) (l : List UInt8) : Prop where
  own : w.ownsRow base 5 1 v l.length (l.map fun b => Value.int .u8 b.toNat)
  base : base ≤ w.heap.size
theorem Bts.nil (w : World) : Bts w w.heap.size (.slice none 0 0) [] := ⟨⟨rfl, .inl ⟨rfl, rfl⟩⟩, Nat.le_refl _⟩
theorem Bts.keeps {w w' : World} {base : Nat} {v : Value} {l : List UInt8} {S : Nat → Prop} (h : Bts w base v l) (k : Keeps S w w') (hs : ∀ g, v.ownBlock = some g → ¬ S g) : Bts w' base v l :=
  ⟨own_keeps h.own k hs, Nat.le_trans h.base k.size⟩
/-- What changes where a row grows. -/
structure Grew (w w' : World) (v v' : Value) : Prop where
  keeps : Keeps (fun g => v.ownBlock = some g) w w'
  own : v'.ownBlock = v.ownBlock ∨ ∀ g, v'.ownBlock = some g → w.heap.size ≤ g
theorem Grew.refl (w : World) (v : Value) : Grew w w v v := ⟨Keeps.refl _ _, .inl rfl⟩
theorem Grew.trans {a b c : World} {u v x : Value} (h : Grew a b u v) (k : Grew b c v x) : Grew a c u x := by
  refine ⟨⟨k.keeps.os.trans h.keeps.os, k.keeps.tape.trans h.keeps.tape, k.keeps.output.trans h.keeps.output, Nat.le_trans h.keeps.size k.keeps.size, fun g hg hs => (k.keeps.block g (Nat.lt_of_lt_of_le hg h.keeps.size) fun e => ?_).trans (h.keeps.block g hg hs)⟩, ?_⟩
  · rcases h.own with ho | ho
    · exact hs (ho ▸ e)
    · have := ho g e; omega
  · rcases k.own with ko | ko
    · rcases h.own with ho | ho
      · exact .inl (ko.trans ho)
      · exact .inr fun g hg => ho g (ko ▸ hg)
    · exact .inr fun g hg => Nat.le_trans h.keeps.size (ko g hg)
theorem Grew.quiet {a b c : World} {u v : Value} (h : Grew a b u v) (k : Keeps (fun _ => False) b c) : Grew a c u v :=
  ⟨h.keeps.trans (k.mono fun _ _ f => f.elim), h.own⟩
theorem Grew.ahead {a b c : World} {u v : Value} (k : Keeps (fun _ => False) a b) (h : Grew b c u v) : Grew a c u v :=
  ⟨(k.mono fun _ _ f => f.elim).trans h.keeps, by rcases h.own with ho | ho; exact .inl ho; exact .inr fun g hg => Nat.le_trans k.size (ho g hg)⟩

/-- What grew is of the call's own: all that was there is kept. -/
theorem Grew.kept {w wr w' : World} {u u' : Value} {X : List UInt8} (h : Grew wr w' u u') (k : Keeps (fun _ => False) w wr) (hb : Bts wr w.heap.size u X) : Keeps (fun _ => False) w w' :=
  ⟨h.keeps.os.trans k.os, h.keeps.tape.trans k.tape, h.keeps.output.trans k.output, Nat.le_trans k.size h.keeps.size, fun g hg hs => (h.keeps.block g (Nat.lt_of_lt_of_le hg k.size) fun e => by
    have := (own_block hb.own e).2; omega).trans (k.block g hg hs)⟩
end Go.Proofs.YthmiainhaebjiaaGreatDoor


/- Pure: events, when they are in form, a thread's turns, which histories can be, their attempts. No statement of the seat is proved here. -/
namespace Go.Proofs.YthmiainhaebjiaaGreatDoor
open Go.RowKit Go.Shelf

/-- An event. -/
structure Ev where
  th : Int
  kd : Int
  ad : Int
  wd : Int
  own : Bool
  er : Int
@[reducible] def Ev.cells (e : Ev) : Array Value := #[.int .i64 e.th, .int .i64 e.kd, .int .u64 e.ad, .int .u64 e.wd, .bool e.own, .int .i64 e.er]
/-- The numbers of an event are numbers of their kinds. -/
def Ev.wf (e : Ev) : Prop := (-9223372036854775808 ≤ e.th ∧ e.th < 9223372036854775808) ∧ (-9223372036854775808 ≤ e.kd ∧ e.kd < 9223372036854775808) ∧ (0 ≤ e.ad ∧ e.ad < 18446744073709551616) ∧ (0 ≤ e.wd ∧ e.wd < 18446744073709551616) ∧ (-9223372036854775808 ≤ e.er ∧ e.er < 9223372036854775808)
/-- What a kind names. -/
def adB (k : Int) : Bool := ([false, false, true, true, false, false, false, false, false, false, true, true, false][k.toNat]?).getD false
def wdB (k : Int) : Bool := ([false, true, true, true, true, false, true, false, false, false, true, true, false][k.toNat]?).getD false
def erB (k : Int) : Bool := ([false, false, false, false, false, false, false, false, false, true, false, false, false][k.toNat]?).getD false
def inB (e : Ev) : Bool := decide (0 ≤ e.th) && decide (e.th < 8) && decide (1 ≤ e.kd) && decide (e.kd ≤ 12)
def bareB (e : Ev) : Bool := (!e.own || decide (e.kd = 2)) && (adB e.kd || decide (e.ad = 0)) && (wdB e.kd || decide (e.wd = 0)) && (erB e.kd || decide (e.er = 0))
def lastB (e : Ev) : Bool := (!(decide (e.kd = 1) || decide (e.kd = 4)) || decide (e.wd % 2 = 0)) && (!decide (e.kd = 9) || (decide (e.er = 4) || decide (e.er = 5) || decide (e.er = 6)))
def formedE (e : Ev) : Bool := inB e && bareB e && lastB e
theorem kd12 {k : Int} (h0 : 1 ≤ k) (h1 : k ≤ 12) : k = 1 ∨ k = 2 ∨ k = 3 ∨ k = 4 ∨ k = 5 ∨ k = 6 ∨ k = 7 ∨ k = 8 ∨ k = 9 ∨ k = 10 ∨ k = 11 ∨ k = 12 := by omega
theorem formed_in {e : Ev} (h : formedE e = true) : 0 ≤ e.th ∧ e.th < 8 ∧ 1 ≤ e.kd ∧ e.kd ≤ 12 := by
  unfold formedE inB at h
  simp only [Bool.and_eq_true, decide_eq_true_eq] at h
  omega

/-- A thread's turns: 1 outside, 2 inside, 3 with the lock, 4 over; 0: none. -/
def turnN (st : Nat) (e : Ev) : Nat :=
  if st = 1 then (if e.kd = 1 then 2 else if e.kd = 10 ∨ e.kd = 11 then 1 else if e.kd = 9 then (if e.er = 4 then 4 else 0) else if e.kd = 12 then 4 else 0)
  else if st = 2 then (if e.kd = 2 ∨ e.kd = 3 ∨ e.kd = 4 then 2 else if e.kd = 5 then 3 else if e.kd = 6 ∨ e.kd = 7 ∨ e.kd = 8 then 1 else if e.kd = 9 then 4 else 0)
  else if st = 3 then (if e.kd = 6 then 1 else 0) else 0
/-- How one thread stands: its state, its snapshot, its Writes, the last one first. -/
structure Sd where
  st : Nat
  sn : Int
  wr : List (Int × Int)
/-- How all stands. -/
structure St where
  n : Int
  t : List Sd
def sd0 : Sd := ⟨1, 0, []⟩
def st0 : St := ⟨0, List.replicate 8 sd0⟩
def St.sd (S : St) (i : Nat) : Sd := (S.t[i]?).getD sd0
def heldB (S : St) : Bool := S.t.any fun s => decide (s.st = 3)
def clkB (k : Int) : Bool := decide (k = 1) || decide (k = 4) || decide (k = 5)
def numE (n : Int) (s : Sd) (e : Ev) : Bool :=
  if e.kd = 1 then decide (e.wd = 2 * n) else if e.kd = 4 then (decide (e.wd = 2 * n) && decide (s.sn < e.wd)) else if e.kd = 5 then decide (s.sn = 2 * n)
  else if e.kd = 6 then (if s.st = 3 then decide (e.wd = n + 1) else decide (e.wd = s.sn / 2)) else true
def ownE (s : Sd) (e : Ev) : Bool :=
  if e.kd = 2 then (match s.wr.lookup e.ad with | some x => e.own && decide (x = e.wd) | none => !e.own)
  else if e.kd = 5 then decide (s.wr ≠ []) else if e.kd = 6 then (decide (s.st = 3) || decide (s.wr = [])) else true
def errS (held : Bool) (n : Int) (s : Sd) (e : Ev) : Int :=
  if formedE e = false then 201 else if turnN s.st e = 0 then 230 else if (held && clkB e.kd) = true then 231 else if numE n s e = false then 232 else if ownE s e = false then 233 else 0
def errE (S : St) (e : Ev) : Int := errS (heldB S) S.n (S.sd e.th.toNat) e
def nextSd (s : Sd) (e : Ev) : Sd := ⟨turnN s.st e, if e.kd = 1 ∨ e.kd = 4 then e.wd else s.sn, if e.kd = 1 then [] else if e.kd = 3 then (e.ad, e.wd) :: s.wr else s.wr⟩
def nextS (S : St) (e : Ev) : St := ⟨if e.kd = 6 ∧ (S.sd e.th.toNat).st = 3 then S.n + 1 else S.n, S.t.set e.th.toNat (nextSd (S.sd e.th.toNat) e)⟩
/-- What is wrong with a history, from a place on. -/
def chk (S : St) : List Ev → Nat → Int × Int
  | [], _ => (-1, 0)
  | e :: h, k => if errE S e = 0 then chk (nextS S e) h (k + 1) else (k, errE S e)
def checkL (h : List Ev) : Int × Int := chk st0 h 0
theorem chk_yes : ∀ (h : List Ev) (S : St) (k : Nat), (chk S h k).2 = 0 → chk S h k = (-1, 0)
  | [], S, k, _ => rfl
  | e :: h, S, k, hc => by
    rw [chk] at hc ⊢
    by_cases he : errE S e = 0
    · rw [if_pos he] at hc ⊢; exact chk_yes h _ _ hc
    · rw [if_neg he] at hc; exact absurd hc he
/-- Up to a place all can be. -/
theorem chk_take {h : List Ev} {S : St} {k j : Nat} (hc : (chk S h k).2 = 0) : (chk S (h.take j) k).2 = 0 := by
  induction h generalizing S k j with
  | nil => simp [chk]
  | cons e h ih =>
    cases j with
    | zero => rfl
    | succ j =>
      rw [chk] at hc
      by_cases he : errE S e = 0
      · rw [if_pos he] at hc
        rw [List.take_succ_cons, chk, if_pos he]; exact ih hc
      · rw [if_neg he] at hc; exact absurd hc he
/-- An attempt. -/
structure Ty where
  th : Int
  fi : Int
  la : Int
  sn : Int
  how : Int
  rd : Int
  wr : Int
@[reducible] def Ty.cells (t : Ty) : Array Value := #[.int .i64 t.th, .int .i64 t.fi, .int .i64 t.la, .int .u64 t.sn, .int .i64 t.how, .int .i64 t.rd, .int .i64 t.wr]
def ty0 : Ty := ⟨0, 0, 0, 0, 0, 0, 0⟩
def endB (k : Int) : Bool := decide (6 ≤ k ∧ k ≤ 9)
def noteT (t : Ty) (at_ : Int) (e : Ev) : Ty := ⟨t.th, t.fi, at_, if e.kd = 1 ∨ e.kd = 4 then e.wd else t.sn, if endB e.kd then e.kd else t.how, if e.kd = 2 ∧ e.own = false then t.rd + 1 else t.rd, if e.kd = 3 then t.wr + 1 else t.wr⟩
/-- The attempts so far, and of each thread how many there are up to its open one (0: none). -/
structure Tr where
  l : List Ty
  o : List Nat
def tr0 : Tr := ⟨[], List.replicate 8 0⟩
def openT (T : Tr) (k : Nat) (e : Ev) : Tr := if e.kd = 1 then ⟨T.l ++ [⟨e.th, k, 0, 0, 0, 0, 0⟩], T.o.set e.th.toNat (T.l.length + 1)⟩ else T
def Tr.at (T : Tr) (i : Nat) : Nat := (T.o[i]?).getD 0
def markT (T : Tr) (k : Nat) (e : Ev) : Tr :=
  if T.at e.th.toNat = 0 then T else
  let t := noteT ((T.l[T.at e.th.toNat - 1]?).getD ty0) k e
  ⟨T.l.set (T.at e.th.toNat - 1) t, if t.how = 0 then T.o else T.o.set e.th.toNat 0⟩
def stepT (T : Tr) (k : Nat) (e : Ev) : Tr := markT (openT T k e) k e
def triesF : Tr → List Ev → Nat → Tr
  | T, [], _ => T
  | T, e :: h, k => triesF (stepT T k e) h (k + 1)
def triesL (h : List Ev) : List Ty := (triesF tr0 h 0).l
theorem triesF_append : ∀ (T : Tr) (h g : List Ev) (k : Nat), triesF T (h ++ g) k = triesF (triesF T h k) g (k + h.length)
  | T, [], g, k => by simp [triesF]
  | T, e :: h, g, k => by
    rw [List.cons_append, triesF, triesF, triesF_append]
    simp only [List.length_cons]
    rw [show k + 1 + h.length = k + (h.length + 1) by omega]
end Go.Proofs.YthmiainhaebjiaaGreatDoor


/- The attempts of a beginning are those of the whole as far as they go (pure). No statement of the seat is proved here. -/
namespace Go.Proofs.YthmiainhaebjiaaGreatDoor

/-- An attempt that is open is none that is over; each thread has its own. -/
structure TInv (T : Tr) (k : Nat) : Prop where
  op : ∀ i, T.at i ≠ 0 → ∃ t, T.l[T.at i - 1]? = some t ∧ t.how = 0
  un : ∀ i j, T.at i ≠ 0 → T.at i = T.at j → i = j
  la : ∀ t ∈ T.l, t.la ≤ k
/-- Attempts, and the same further on. -/
def TRel (l l' : List Ty) : Prop := ∀ (i : Nat) (t : Ty), l[i]? = some t → ∃ t', l'[i]? = some t' ∧ t.th = t'.th ∧ t.fi = t'.fi ∧ t.rd ≤ t'.rd ∧ t.la ≤ t'.la ∧ (t.how ≠ 0 → t = t')
theorem TRel.refl (l : List Ty) : TRel l l := fun _ t h => ⟨t, h, rfl, rfl, Int.le_refl _, Int.le_refl _, fun _ => rfl⟩
theorem TRel.trans {a b c : List Ty} (h : TRel a b) (k : TRel b c) : TRel a c := fun i t hi => by
  obtain ⟨t1, q1, a1, a2, a3, a4, a5⟩ := h i t hi
  obtain ⟨t2, q2, b1, b2, b3, b4, b5⟩ := k i t1 q1
  refine ⟨t2, q2, a1.trans b1, a2.trans b2, Int.le_trans a3 b3, Int.le_trans a4 b4, fun hh => ?_⟩
  obtain rfl := a5 hh
  exact b5 hh
theorem TRel.len {a b : List Ty} (h : TRel a b) : a.length ≤ b.length := by
  rcases Nat.lt_or_ge b.length a.length with hlt | hge
  · obtain ⟨t', q, _⟩ := h b.length _ (List.getElem?_eq_getElem hlt)
    rw [List.getElem?_eq_none (Nat.le_refl _)] at q
    cases q
  · exact hge
theorem tr0_inv : TInv tr0 0 := ⟨fun i hi => by
    exfalso; apply hi
    simp only [Tr.at, tr0, List.getElem?_replicate]
    split <;> rfl, fun i j hi => by
    exfalso; apply hi
    simp only [Tr.at, tr0, List.getElem?_replicate]
    split <;> rfl, by simp [tr0]⟩
theorem at_set (l : List Ty) (T : Tr) (i n j : Nat) : (⟨l, T.o.set i n⟩ : Tr).at j = if j = i ∧ i < T.o.length then n else T.at j := by
  simp only [Tr.at, List.getElem?_set]
  by_cases h : i = j
  · subst h
    by_cases hl : i < T.o.length
    · simp [hl]
    · simp [hl]
  · simp [h, Ne.symm h]
theorem open_inv {T : Tr} {k : Nat} (h : TInv T k) (e : Ev) : TInv (openT T k e) k ∧ TRel T.l (openT T k e).l := by
  unfold openT
  by_cases h1 : e.kd = 1
  · rw [if_pos h1]
    have hle : ∀ i, T.at i ≠ 0 → T.at i - 1 < T.l.length := fun i hi => by
      obtain ⟨t, ht, _⟩ := h.op i hi
      exact (List.getElem?_eq_some_iff.1 ht).1
    refine ⟨⟨fun i hi => ?_, fun i j hi hij => ?_, fun t ht => ?_⟩, fun i t hi => ?_⟩
    · rw [at_set] at hi ⊢
      split at hi
      · rename_i hc
        rw [if_pos hc]
        exact ⟨_, by rw [List.getElem?_append_right (by simp)]; simp; rfl, rfl⟩
      · rename_i hc
        rw [if_neg hc]
        obtain ⟨t, ht, h0⟩ := h.op i hi
        exact ⟨t, by show (T.l ++ _)[T.at i - 1]? = _; rw [List.getElem?_append_left (hle i hi)]; exact ht, h0⟩
    · rw [at_set] at hi
      rw [at_set, at_set] at hij
      split at hij <;> split at hij
      · rename_i c1 c2; exact c1.1.trans c2.1.symm
      · rename_i c1 c2
        have hj : T.at j ≠ 0 := by omega
        have := hle j hj
        omega
      · rename_i c1 c2
        rw [if_neg c1] at hi
        have := hle i hi
        omega
      · rename_i c1 c2
        rw [if_neg c1] at hi
        exact h.un i j hi hij
    · rcases List.mem_append.1 ht with ht | ht
      · exact h.la t ht
      · simp at ht; subst ht; exact Int.natCast_nonneg k
    · exact ⟨t, by rw [List.getElem?_append_left (List.getElem?_eq_some_iff.1 hi).1]; exact hi, rfl, rfl, Int.le_refl _, Int.le_refl _, fun _ => rfl⟩
  · rw [if_neg h1]; exact ⟨h, TRel.refl _⟩
theorem mark_inv {T : Tr} {k : Nat} (h : TInv T k) (e : Ev) : TInv (markT T k e) (k + 1) ∧ TRel T.l (markT T k e).l := by
  unfold markT
  by_cases h0 : T.at e.th.toNat = 0
  · rw [if_pos h0]
    exact ⟨⟨h.op, h.un, fun t ht => by have := h.la t ht; omega⟩, TRel.refl _⟩
  · rw [if_neg h0]
    obtain ⟨t, ht, hw⟩ := h.op _ h0
    have hlt := (List.getElem?_eq_some_iff.1 ht).1
    have hg : (T.l[T.at e.th.toNat - 1]?).getD ty0 = t := by rw [ht]; rfl
    simp only [hg]
    have hol : e.th.toNat < T.o.length := by
      rcases Nat.lt_or_ge e.th.toNat T.o.length with q | q
      · exact q
      · exfalso; apply h0; simp [Tr.at, List.getElem?_eq_none q]
    have other : ∀ i, i ≠ e.th.toNat → T.at i ≠ 0 → T.at e.th.toNat - 1 ≠ T.at i - 1 := fun i hi hn hc => by
      have : T.at i = T.at e.th.toNat := by omega
      exact hi (h.un i _ hn this)
    refine ⟨⟨fun i hi => ?_, fun i j hi hij => ?_, fun t' ht' => ?_⟩, fun i t' hi => ?_⟩
    · by_cases hn : (noteT t k e).how = 0
      · simp only [if_pos hn] at hi ⊢
        by_cases hie : i = e.th.toNat
        · subst hie
          exact ⟨noteT t k e, List.getElem?_set_self hlt, hn⟩
        · obtain ⟨u, hu, hw'⟩ := h.op i hi
          exact ⟨u, by show (T.l.set _ _)[T.at i - 1]? = _; rw [List.getElem?_set_ne (other i hie hi)]; exact hu, hw'⟩
      · simp only [if_neg hn] at hi ⊢
        rw [at_set] at hi ⊢
        split at hi
        · exact absurd rfl hi
        · rename_i hc
          rw [if_neg hc]
          have hie : i ≠ e.th.toNat := fun q => hc ⟨q, hol⟩
          obtain ⟨u, hu, hw'⟩ := h.op i hi
          exact ⟨u, by show (T.l.set _ _)[T.at i - 1]? = _; rw [List.getElem?_set_ne (other i hie hi)]; exact hu, hw'⟩
    · by_cases hn : (noteT t k e).how = 0
      · simp only [if_pos hn] at hi hij
        exact h.un i j hi hij
      · simp only [if_neg hn] at hi hij
        rw [at_set] at hi
        rw [at_set, at_set] at hij
        split at hi
        · exact absurd rfl hi
        · rename_i hc
          rw [if_neg hc] at hij
          split at hij
          · exact absurd hij hi
          · exact h.un i j hi hij
    · rcases List.mem_or_eq_of_mem_set ht' with q | rfl
      · have := h.la t' q; omega
      · show (k : Int) ≤ ((k + 1 : Nat) : Int); omega
    · by_cases hie : T.at e.th.toNat - 1 = i
      · subst hie
        obtain rfl := Option.some.inj (ht.symm.trans hi)
        refine ⟨noteT t k e, List.getElem?_set_self hlt, rfl, rfl, ?_, h.la t (List.mem_of_getElem? ht), fun q => absurd hw q⟩
        show t.rd ≤ if e.kd = 2 ∧ e.own = false then t.rd + 1 else t.rd
        split <;> omega
      · exact ⟨t', by rw [List.getElem?_set_ne hie]; exact hi, rfl, rfl, Int.le_refl _, Int.le_refl _, fun _ => rfl⟩
end Go.Proofs.YthmiainhaebjiaaGreatDoor


/- Rows of structs: as they lie, and of the call's own. No statement of the seat is proved here. -/
namespace Go.Proofs.YthmiainhaebjiaaGreatDoor
open Go.RowKit Go.Shelf

section
variable {α : Type}
def flatV (c : α → List Value) (L : List α) : List Value := L.flatMap c
theorem flatV_len {c : α → List Value} {sz : Nat} (hc : ∀ x, (c x).length = sz) (L : List α) : (flatV c L).length = L.length * sz := by
  induction L with
  | nil => simp [flatV]
  | cons i L ih =>
    have e : flatV c (i :: L) = c i ++ flatV c L := rfl
    rw [e, List.length_append, ih, hc, List.length_cons, Nat.succ_mul, Nat.add_comm]
theorem flatV_at {c : α → List Value} {sz : Nat} (hc : ∀ x, (c x).length = sz) : ∀ (L : List α) (k f : Nat) (hk : k < L.length), f < sz → (flatV c L)[k * sz + f]? = (c (L[k]))[f]?
  | [], k, f, hk, _ => absurd hk (by simp)
  | i :: L, 0, f, _, hf => by
    have e : flatV c (i :: L) = c i ++ flatV c L := rfl
    rw [e, Nat.zero_mul, Nat.zero_add, List.getElem?_append_left (by rw [hc]; exact hf)]
    rfl
  | i :: L, k + 1, f, hk, hf => by
    have h := flatV_at hc L k f (by simpa using hk) hf
    have e : flatV c (i :: L) = c i ++ flatV c L := rfl
    rw [e, List.getElem?_append_right (by rw [hc, Nat.succ_mul]; omega), hc]
    rw [show (k + 1) * sz + f - sz = k * sz + f by rw [Nat.succ_mul]; omega, h]
    simp
theorem flatV_one {c : α → List Value} (h1 : ∀ x, ∀ u ∈ c x, u.oneCell' = true) (L : List α) : ∀ u ∈ flatV c L, u.oneCell' = true := by
  intro u hu
  obtain ⟨i, _, h⟩ := List.mem_flatMap.1 hu
  exact h1 i u h
theorem flatV_set {c : α → List Value} {sz : Nat} (hc : ∀ x, (c x).length = sz) : ∀ (L : List α) (k f : Nat) (y : α) (x : Value) (hk : k < L.length), f < sz → c y = (c (L[k])).set f x → (flatV c L).set (k * sz + f) x = flatV c (L.set k y)
  | [], k, f, y, x, hk, _, _ => absurd hk (by simp)
  | i :: L, 0, f, y, x, _, hf, hy => by
    have e : flatV c (i :: L) = c i ++ flatV c L := rfl
    have e2 : flatV c ((i :: L).set 0 y) = c y ++ flatV c L := rfl
    simp only [List.getElem_cons_zero] at hy
    rw [e, e2, hy, Nat.zero_mul, Nat.zero_add, List.set_append_left _ _ (by rw [hc]; exact hf)]
  | i :: L, k + 1, f, y, x, hk, hf, hy => by
    have h := flatV_set hc L k f y x (by simpa using hk) hf (by simpa using hy)
    have e : flatV c (i :: L) = c i ++ flatV c L := rfl
    have e2 : flatV c ((i :: L).set (k + 1) y) = c i ++ flatV c (L.set k y) := rfl
    rw [e, e2, ← h, List.set_append_right _ _ (by rw [hc, Nat.succ_mul]; omega), hc]
    rw [show (k + 1) * sz + f - sz = k * sz + f by rw [Nat.succ_mul]; omega]

/-- Elements where they lie, so many cells each. -/
structure ElsAt (c : α → List Value) (sz : Nat) (w : World) (v : Value) (L : List α) : Prop where
  form : ∃ a cap, v = .slice a L.length cap ∧ L.length ≤ cap ∧ ∀ k (hk : k < L.length), ∃ g off, a = some ⟨g, off, none⟩ ∧ ∀ f x, (c (L[k]'hk))[f]? = some x → w.cell? ⟨g, off + k * sz + f, none⟩ = some x
theorem ElsAt.at {c : α → List Value} {sz : Nat} {w : World} {a : Option Addr} {n cap : Nat} {L : List α} (h : ElsAt c sz w (.slice a n cap) L) (k : Nat) (hk : k < L.length) : ∃ g off, a = some ⟨g, off, none⟩ ∧ ∀ f x, (c (L[k]'hk))[f]? = some x → w.cell? ⟨g, off + k * sz + f, none⟩ = some x := by
  obtain ⟨a', cap', hv, -, hc⟩ := h.form
  simp only [Value.slice.injEq] at hv
  obtain ⟨rfl, rfl, rfl⟩ := hv
  exact hc k hk
theorem ElsAt.shape {c : α → List Value} {sz : Nat} {w : World} {v : Value} {L : List α} (h : ElsAt c sz w v L) : ∃ a cap, v = .slice a L.length cap ∧ L.length ≤ cap := by
  obtain ⟨a, cap, hv, hl, -⟩ := h.form
  exact ⟨a, cap, hv, hl⟩
theorem ElsAt.keepsB {c : α → List Value} {sz : Nat} {w w' : World} {v : Value} {L : List α} {S : Nat → Prop} (h : ElsAt c sz w v L) (hc : ∀ x, (c x) ≠ []) (k : Keeps S w w') (hs : ∀ a n cp, v = .slice (some a) n cp → ¬ S a.block) : ElsAt c sz w' v L := by
  obtain ⟨a, cap, rfl, hl, hcell⟩ := h.form
  refine ⟨a, cap, rfl, hl, fun j hj => ?_⟩
  obtain ⟨g, off, rfl, q⟩ := hcell j hj
  have hg : g < w.heap.size := by
    cases hx : c (L[j]) with
    | nil => exact absurd hx (hc _)
    | cons u us => exact World.block_lt_of_cell? _ _ (q 0 u (by rw [hx]; rfl))
  have hb := k.block g hg (hs _ _ _ rfl)
  exact ⟨g, off, rfl, fun f x hx => by rw [← q f x hx]; simp [World.cell?, hb]⟩
theorem ElsAt.keeps {c : α → List Value} {sz : Nat} {w w' : World} {v : Value} {L : List α} (h : ElsAt c sz w v L) (hc : ∀ x, (c x) ≠ []) (k : Keeps (fun _ => False) w w') : ElsAt c sz w' v L := h.keepsB hc k (fun _ _ _ _ f => f)
theorem ElsAt.cells {c : α → List Value} {sz : Nat} (hc : ∀ x, (c x).length = sz) (hz : 0 < sz) {w : World} {v : Value} {L : List α} (h : ElsAt c sz w v L) (hne : L ≠ []) : ∃ g off cap, v = .slice (some ⟨g, off, none⟩) L.length cap ∧ ∀ (j : Nat) (u : Value), (flatV c L)[j]? = some u → w.cell? ((⟨g, off, none⟩ : Addr).add j) = some u := by
  obtain ⟨a, cap, rfl, hl, hcell⟩ := h.form
  have hpos := List.length_pos_iff.2 hne
  obtain ⟨g, off, ha, _⟩ := hcell 0 hpos
  subst ha
  refine ⟨g, off, cap, rfl, fun j u hj => ?_⟩
  have hjl : j < L.length * sz := by have := (List.getElem?_eq_some_iff.1 hj).1; rwa [flatV_len hc] at this
  have hk : j / sz < L.length := (Nat.div_lt_iff_lt_mul hz).2 hjl
  obtain ⟨g', off', ha, q⟩ := hcell (j / sz) hk
  cases ha
  have e : j = j / sz * sz + j % sz := by rw [Nat.mul_comm]; exact (Nat.div_add_mod j sz).symm
  rw [e, flatV_at hc L (j / sz) (j % sz) hk (Nat.mod_lt _ hz)] at hj
  rw [addr_add, e, ← Nat.add_assoc]
  exact q _ _ hj
theorem ElsAt.take {c : α → List Value} {sz : Nat} {w : World} {a : Option Addr} {n cap : Nat} {L : List α} (h : ElsAt c sz w (.slice a n cap) L) (j : Nat) (hj : j ≤ L.length) : ElsAt c sz w (.slice a j cap) (L.take j) := by
  obtain ⟨a', cap', hv, hl, hc⟩ := h.form
  simp only [Value.slice.injEq] at hv
  obtain ⟨rfl, rfl, rfl⟩ := hv
  have hlen : (L.take j).length = j := by simp; omega
  refine ⟨a, cap, by rw [hlen], by rw [hlen]; omega, fun k hk => ?_⟩
  obtain ⟨g, off, ha, q⟩ := hc k (by simp at hk; omega)
  refine ⟨g, off, ha, fun f x hx => q f x ?_⟩
  rw [List.getElem_take] at hx
  exact hx

/-- A row of elements of the call's own. -/
structure OwnR (c : α → List Value) (sz : Nat) (t : TypeId) (w : World) (base : Nat) (v : Value) (L : List α) : Prop where
  own : w.ownsRow base t sz v L.length (flatV c L)
  base : base ≤ w.heap.size
variable {c : α → List Value} {sz : Nat} {t : TypeId}
theorem OwnR.nil (c : α → List Value) (sz : Nat) (t : TypeId) (w : World) : OwnR c sz t w w.heap.size (.slice none 0 0) [] := ⟨⟨by simp [flatV], .inl ⟨rfl, rfl⟩⟩, Nat.le_refl _⟩
theorem OwnR.nilB (c : α → List Value) (sz : Nat) (t : TypeId) (w : World) (base : Nat) (hb : base ≤ w.heap.size) : OwnR c sz t w base (.slice none 0 0) [] := ⟨⟨by simp [flatV], .inl ⟨rfl, rfl⟩⟩, hb⟩
theorem OwnR.keeps {w w' : World} {base : Nat} {v : Value} {L : List α} {S : Nat → Prop} (h : OwnR c sz t w base v L) (k : Keeps S w w') (hs : ∀ g, v.ownBlock = some g → ¬ S g) : OwnR c sz t w' base v L :=
  ⟨own_keeps h.own k hs, Nat.le_trans h.base k.size⟩
theorem OwnR.form {w : World} {base : Nat} {v : Value} {L : List α} (h : OwnR c sz t w base v L) : ∃ b cp, v = .slice b L.length cp := by
  rcases h.own.2 with ⟨rfl, h2⟩ | ⟨g, cap, cur, rfl, _⟩
  · exact ⟨none, 0, by rw [h2]⟩
  · exact ⟨_, cap, rfl⟩
theorem OwnR.els (hc : ∀ x, (c x).length = sz) {w : World} {base : Nat} {v : Value} {L : List α} (h : OwnR c sz t w base v L) : ElsAt c sz w v L := by
  rcases h.own.2 with ⟨rfl, h2⟩ | ⟨g, cap, cur, rfl, h1, h2, h3, h4, h5, h6⟩
  · exact ⟨none, 0, by rw [h2], by omega, fun k hk => by omega⟩
  · refine ⟨_, cap, rfl, h3, fun k hk => ⟨g, 0, rfl, fun f x hx => ?_⟩⟩
    have hf : f < sz := by have := (List.getElem?_eq_some_iff.1 hx).1; rwa [hc] at this
    have hlt : k * sz + f < L.length * sz := by
      have := Nat.mul_le_mul_right sz (show k + 1 ≤ L.length from hk)
      rw [Nat.succ_mul] at this; omega
    rw [Nat.zero_add, cell_of_block h2, ← hx, ← flatV_at hc L k f hk hf, ← h6, List.getElem?_take_of_lt hlt]
    simp
theorem OwnR.at {w : World} {base : Nat} {v : Value} {L : List α} (h : OwnR c sz t w base v L) (hne : 0 < L.length) : ∃ g cap cur, v = .slice (some ⟨g, 0, none⟩) L.length cap ∧ base ≤ g ∧ w.heap[g]? = some (.cells cur t (0, 0)) ∧ L.length * sz ≤ cur.size := by
  rcases h.own.2 with ⟨rfl, h2⟩ | ⟨g, cap, cur, rfl, h1, h2, h3, h4, h5, h6⟩
  · omega
  · exact ⟨g, cap, cur, rfl, h1, h2, by rw [h5]; exact Nat.mul_le_mul_right _ h3⟩
/-- A cell of an element is stored. -/
theorem OwnR.set (hc : ∀ x, (c x).length = sz) {w : World} {base g n cap : Nat} {L : List α} (h : OwnR c sz t w base (.slice (some ⟨g, 0, none⟩) n cap) L) (k f : Nat) (y : α) (x : Value) (hk : k < L.length) (hf : f < sz) (hy : c y = (c (L[k])).set f x) :
    OwnR c sz t (w.setCell ⟨g, k * sz + f, none⟩ x) base (.slice (some ⟨g, 0, none⟩) n cap) (L.set k y) := by
  rcases h.own.2 with ⟨hv, h2⟩ | ⟨g', cap', cur, hv, h1, h2, h3, h4, h5, h6⟩
  · cases hv
  · cases hv
    refine ⟨⟨?_, .inr ⟨g, cap, cur.setIfInBounds (k * sz + f) x, by rw [List.length_set], h1, block_set h2 _ _, by rw [List.length_set]; exact h3, h4, by simpa using h5, ?_⟩⟩, by simpa using h.base⟩
    · rw [flatV_len hc]
    · rw [List.length_set, ← flatV_set hc L k f y x hk hf hy, ← h6]
      simp only [Array.toList_setIfInBounds]
      apply List.ext_getElem?
      intro j
      rw [List.getElem?_take, List.getElem?_set, List.getElem?_set, List.getElem?_take, List.length_take]
      have hlt : k * sz + f < L.length * sz := by
        have := Nat.mul_le_mul_right sz (show k + 1 ≤ L.length from hk)
        rw [Nat.succ_mul] at this; omega
      have hle : L.length * sz ≤ cur.size := by rw [h5]; exact Nat.mul_le_mul_right _ h3
      by_cases hj : j < L.length * sz <;> by_cases he : k * sz + f = j
      · subst he
        have h9 : k * sz + f < cur.size := Nat.lt_of_lt_of_le hlt hle
        simp [hj, h9]
        exact Nat.lt_min.2 ⟨hj, h9⟩
      · simp [hj, he]
      · omega
      · simp [hj, he]
/-- More behind a row of the call's own. -/
theorem OwnR.app {P : Program} {ts ty : TypeId} {z : Value} {bytes : Nat} (hc : ∀ x, (c x).length = sz) (h1 : ∀ x, ∀ u ∈ c x, u.oneCell' = true) (hz : 0 < sz) (ht : P.underlying ts = some (.slice t)) (hinfo : (P.info? t).map (fun i => (i.zero, i.size, i.bytes)) = some (some z, sz, bytes)) (hzs : z.cells.size = sz) (hb1 : 0 < bytes)
    {w : World} {base : Nat} {v : Value} {L : List α} (h : OwnR c sz t w base v L) (vs : Value) (M : List α) (hM : ElsAt c sz w vs M) (hb : (L.length + M.length) * bytes ≤ 140737488355328) :
    ∃ v' w', (Builtin.append_ #[ts, ts] ty #[v, vs]).run P w = .ok v' w' ∧ OwnR c sz t w' base v' (L ++ M) ∧ Grew w w' v v' := by
  obtain ⟨i0, hi, hz0, hz1, hz2⟩ := info_parts hinfo
  by_cases hne : M = []
  · subst hne
    obtain ⟨a, cp, rfl, _, _⟩ := hM.form
    simp only [List.length_nil, List.append_nil]
    cases a with
    | none =>
      have hv : ∃ b n c', v = .slice b n c' ∧ n ≤ c' := by
        rcases h.own.2 with ⟨rfl, _⟩ | ⟨g, cap, cur, rfl, _, _, h3, _⟩
        · exact ⟨none, 0, 0, rfl, Nat.le_refl _⟩
        · exact ⟨_, _, cap, rfl, h3⟩
      obtain ⟨b, n, c', rfl, hle⟩ := hv
      exact ⟨_, w, run_append_nothing w ts ts ty t i0 ht hi b n c' hle _ (Src.ofNil _ (e' := t) ht cp), h, Grew.refl _ _⟩
    | some a =>
      obtain ⟨v', w', q1, q2, q3, q4⟩ := own_push (P := P) w base ts ty t _ sz bytes ht hinfo hzs hz v L.length _ h.own a 0 cp [] (by simp) (fun j u hj => by simp at hj) (by simp) (by simpa using hb) hb1 h.base
      refine ⟨v', w', q1, ⟨by simpa using q2, Nat.le_trans h.base q3.size⟩, ⟨(Keeps.refl _ _).grown q3 fun k hk => .inr hk, q4⟩⟩
  · obtain ⟨g, off, cap, rfl, hcs⟩ := hM.cells hc hz hne
    obtain ⟨v', w', q1, q2, q3, q4⟩ := own_push (P := P) w base ts ty t _ sz bytes ht hinfo hzs hz v L.length _ h.own ⟨g, off, none⟩ M.length cap (flatV c M) (flatV_len hc M) hcs (flatV_one h1 M) hb hb1 h.base
    refine ⟨v', w', q1, ⟨by simpa [flatV] using q2, Nat.le_trans h.base q3.size⟩, ⟨(Keeps.refl _ _).grown q3 fun k hk => .inr hk, q4⟩⟩
theorem ElsAt.one {w : World} {g : Nat} (x : α) {cs : Array Value} (hcs : cs = (c x).toArray) (hb : w.heap[g]? = some (.cells cs t (0, 0))) : ElsAt c sz w (.slice (some ⟨g, 0, none⟩) 1 1) [x] := by
  refine ⟨_, 1, rfl, Nat.le_refl _, fun k hk => ⟨g, 0, rfl, fun f u hu => ?_⟩⟩
  obtain rfl : k = 0 := by simp at hk; omega
  rw [cell_of_block hb, hcs]
  simpa using hu
theorem OwnR.push {P : Program} {ts ty : TypeId} {z : Value} {bytes : Nat} (hc : ∀ x, (c x).length = sz) (h1 : ∀ x, ∀ u ∈ c x, u.oneCell' = true) (hz : 0 < sz) (ht : P.underlying ts = some (.slice t)) (hinfo : (P.info? t).map (fun i => (i.zero, i.size, i.bytes)) = some (some z, sz, bytes)) (hzs : z.cells.size = sz) (hb1 : 0 < bytes)
    {w : World} {base : Nat} {v : Value} {L : List α} (h : OwnR c sz t w base v L) (x : α) {cs : Array Value} (hcs : cs = (c x).toArray) (hb : (L.length + 1) * bytes ≤ 140737488355328) :
    ∃ v' w', (Builtin.append_ #[ts, ts] ty #[v, .slice (some ⟨w.heap.size, 0, none⟩) 1 1]).run P (w.alloc (.cells cs t)) = .ok v' w' ∧ OwnR c sz t w' base v' (L ++ [x]) ∧ Grew w w' v v' := by
  have k0 := (Keeps.refl (fun _ => False) w).alloc (.cells cs t)
  have b0 := (MapKept.heap_alloc w (.cells cs t)).1
  obtain ⟨v', w', q1, q2, q3⟩ := (h.keeps k0 (fun _ _ f => f)).app hc h1 hz ht hinfo hzs hb1 (ty := ty) _ [x] (ElsAt.one x hcs b0) (by simpa using hb)
  exact ⟨v', w', q1, q2, Grew.ahead k0 q3⟩
theorem OwnR.kept {w wr w' : World} {u u' : Value} {X : List α} (h : Grew wr w' u u') (k : Keeps (fun _ => False) w wr) (hb : OwnR c sz t wr w.heap.size u X) : Keeps (fun _ => False) w w' :=
  ⟨h.keeps.os.trans k.os, h.keeps.tape.trans k.tape, h.keeps.output.trans k.output, Nat.le_trans k.size h.keeps.size, fun g hg hs => (h.keeps.block g (Nat.lt_of_lt_of_le hg k.size) fun e => by
    have := (own_block hb.own e).2; omega).trans (k.block g hg hs)⟩
end

/-- Events. -/
@[reducible] def Ev.cl (e : Ev) : List Value := [.int .i64 e.th, .int .i64 e.kd, .int .u64 e.ad, .int .u64 e.wd, .bool e.own, .int .i64 e.er]
theorem ev_len (e : Ev) : e.cl.length = 6 := rfl
theorem ev_ne (e : Ev) : e.cl ≠ [] := by simp
theorem ev_one (e : Ev) : ∀ u ∈ e.cl, u.oneCell' = true := by
  intro u hu
  simp at hu
  rcases hu with rfl | rfl | rfl | rfl | rfl | rfl <;> rfl
theorem info_ev : (Tryz.prog.info? 60).map (fun i => (i.zero, i.size, i.bytes)) = some (some (.agg #[.int .i64 0, .int .i64 0, .int .u64 0, .int .u64 0, .bool false, .int .i64 0]), 6, 48) := by kernel_rfl
/-- A history as it lies. -/
structure EvsAt (w : World) (v : Value) (L : List Ev) : Prop where
  els : ElsAt Ev.cl 6 w v L
  wf : ∀ e ∈ L, e.wf
  big : L.length * 48 ≤ 140737488351232
theorem EvsAt.keeps {w w' : World} {v : Value} {L : List Ev} (h : EvsAt w v L) (k : Keeps (fun _ => False) w w') : EvsAt w' v L := ⟨h.els.keeps ev_ne k, h.wf, h.big⟩
theorem EvsAt.keepsB {w w' : World} {v : Value} {L : List Ev} {S : Nat → Prop} (h : EvsAt w v L) (k : Keeps S w w') (hs : ∀ a n cp, v = .slice (some a) n cp → ¬ S a.block) : EvsAt w' v L := ⟨h.els.keepsB ev_ne k hs, h.wf, h.big⟩
/-- An event of a history, cell by cell. -/
theorem EvsAt.at {w : World} {a : Option Addr} {n cap : Nat} {L : List Ev} (h : EvsAt w (.slice a n cap) L) (k : Nat) (hk : k < L.length) : ∃ g off, a = some ⟨g, off, none⟩ ∧ w.cell? ⟨g, off + k * 6, none⟩ = some (.int .i64 (L[k]).th) ∧ w.cell? ⟨g, off + k * 6 + 1, none⟩ = some (.int .i64 (L[k]).kd) ∧ w.cell? ⟨g, off + k * 6 + 2, none⟩ = some (.int .u64 (L[k]).ad) ∧ w.cell? ⟨g, off + k * 6 + 3, none⟩ = some (.int .u64 (L[k]).wd) ∧ w.cell? ⟨g, off + k * 6 + 4, none⟩ = some (.bool (L[k]).own) ∧ w.cell? ⟨g, off + k * 6 + 5, none⟩ = some (.int .i64 (L[k]).er) := by
  obtain ⟨g, off, ha, q⟩ := h.els.at k hk
  exact ⟨g, off, ha, q 0 _ rfl, q 1 _ rfl, q 2 _ rfl, q 3 _ rfl, q 4 _ rfl, q 5 _ rfl⟩
/-- Attempts. -/
@[reducible] def Ty.cl (t : Ty) : List Value := [.int .i64 t.th, .int .i64 t.fi, .int .i64 t.la, .int .u64 t.sn, .int .i64 t.how, .int .i64 t.rd, .int .i64 t.wr]
theorem ty_len (e : Ty) : e.cl.length = 7 := rfl
theorem ty_ne (e : Ty) : e.cl ≠ [] := by simp
theorem ty_one (e : Ty) : ∀ u ∈ e.cl, u.oneCell' = true := by
  intro u hu
  simp at hu
  rcases hu with rfl | rfl | rfl | rfl | rfl | rfl | rfl <;> rfl
theorem info_ty : (Tryz.prog.info? 54).map (fun i => (i.zero, i.size, i.bytes)) = some (some (.agg #[.int .i64 0, .int .i64 0, .int .i64 0, .int .u64 0, .int .i64 0, .int .i64 0, .int .i64 0]), 7, 56) := by kernel_rfl
end Go.Proofs.YthmiainhaebjiaaGreatDoor
