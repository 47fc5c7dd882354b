
/-
  A table of the program's as it lies in memory: its own block, its slots, its entries in the order of coming; which blocks a call may turn. No statement of the seat is proved here.
-/
import Derived.Test.YtmhinalgjfiliaaDoorHome
import Derived.Test.YtmhinalgjfiliaaDoorShift
import Derived.Deep.Draws
import Derived.WalkMore
import Derived.ScopeJumps
namespace Go.Proofs.YtmhinalgjfiliaaDoor
open Go.RowKit

/-- A scope that runs on to its one label, and jumps back to it: what holds at the label each time, and a measure. -/
theorem wp_scope_loop {P : Program} {a : Act} {w : World} {Q : Exit → Act → World → Prop} {A R : Code} (l : Nat) (J : Act → World → Prop) (μ : Act → World → Nat) (hf : findLabel (A.seq ((Code.label l).seq R)) l = some (Code.skip.seq R))
    (first : A.wp P (Exit.then J (fun _ _ _ => False)) a w) (pass : ∀ a w, J a w → R.wp P (Exit.jump l (fun a' w' => J a' w' ∧ μ a' w' < μ a w) Q) a w) :
    (Code.scope (A.seq ((Code.label l).seq R))).wp P Q a w := by
  refine wp_scope_jumps l J μ hf ?_ ?_
  · refine wp_seq (wp_mono first ?_)
    intro e a' w' he
    cases e with
    | normal =>
      refine wp_seq (wp_label ?_)
      exact wp_mono (pass a' w' he) (fun e a2 w2 h2 => by
        cases e with
        | goto l' => exact ⟨h2.1, h2.2.1⟩
        | normal => exact h2
        | exit id => exact h2
        | ret => exact h2
        | panic ch => exact h2
        | outgrown => exact h2)
    | goto l' => exact False.elim he
    | exit id => exact False.elim he
    | ret => exact False.elim he
    | panic ch => exact False.elim he
    | outgrown => exact False.elim he
  · intro a' w' hJ
    exact wp_seq (wp_skip (pass a' w' hJ))

theorem cell_of_block {w : World} {b : Nat} {c : Array Value} {t : TypeId} {fr : Nat × Nat} (h : w.heap[b]? = some (.cells c t fr)) (i : Nat) : w.cell? ⟨b, i, none⟩ = c[i]? := by
  simp [World.cell?, h]
theorem frozen_of_block {w : World} {b : Nat} {c : Array Value} {t : TypeId} (h : w.heap[b]? = some (.cells c t (0, 0))) (i : Nat) : w.frozen? ⟨b, i, none⟩ = false := by
  simp [World.frozen?, h]
theorem lt_of_block {w : World} {b : Nat} {o : Obj} (h : w.heap[b]? = some o) : b < w.heap.size := (Array.getElem?_eq_some_iff.1 h).1
theorem block_set {w : World} {b : Nat} {c : Array Value} {t : TypeId} {fr : Nat × Nat} (h : w.heap[b]? = some (.cells c t fr)) (i : Nat) (v : Value) :
    (w.setCell ⟨b, i, none⟩ v).heap[b]? = some (.cells (c.setIfInBounds i v) t fr) := by
  simp [World.setCell, Array.getElem?_modify, h]
theorem block_other {w : World} {b c : Nat} {o : Obj} (h : w.heap[b]? = some o) (hne : b ≠ c) (i : Nat) (v : Value) : (w.setCell ⟨c, i, none⟩ v).heap[b]? = some o :=
  (Below.heap_setCell _ _ _ _ hne).trans h
theorem alloc_block (w : World) (o : Obj) : (w.alloc o).heap[w.heap.size]? = some o := (MapKept.heap_alloc w o).1
theorem alloc_old {w : World} {k : Nat} {o : Obj} (h : w.heap[k]? = some o) (o' : Obj) : (w.alloc o').heap[k]? = some o := (Below.heap_alloc _ _ _ (lt_of_block h)).trans h

/-- All blocks that were there lie as they lay, but those of S; the streams are as they were. -/
structure Keeps (S : Nat → Prop) (w w' : World) : Prop where
  os : w'.os = w.os
  tape : w'.tape = w.tape
  output : w'.output = w.output
  size : w.heap.size ≤ w'.heap.size
  block : ∀ k, k < w.heap.size → ¬ S k → w'.heap[k]? = w.heap[k]?

theorem Keeps.refl (S : Nat → Prop) (w : World) : Keeps S w w := ⟨rfl, rfl, rfl, Nat.le_refl _, fun _ _ _ => rfl⟩
theorem Keeps.trans {S : Nat → Prop} {a b c : World} (h : Keeps S a b) (k : Keeps S b c) : Keeps S a c :=
  ⟨k.os.trans h.os, k.tape.trans h.tape, k.output.trans h.output, Nat.le_trans h.size k.size, fun i hi hs => (k.block i (Nat.lt_of_lt_of_le hi h.size) hs).trans (h.block i hi hs)⟩
theorem Keeps.mono {S T : Nat → Prop} {a b : World} (h : Keeps S a b) (hst : ∀ k, k < a.heap.size → S k → T k) : Keeps T a b :=
  ⟨h.os, h.tape, h.output, h.size, fun i hi ht => h.block i hi (fun hs => ht (hst i hi hs))⟩
/-- A second step may also turn what is new since the first world. -/
theorem Keeps.step {S T : Nat → Prop} {a b c : World} (h : Keeps S a b) (k : Keeps T b c) (hst : ∀ i, i < a.heap.size → T i → S i) : Keeps S a c :=
  ⟨k.os.trans h.os, k.tape.trans h.tape, k.output.trans h.output, Nat.le_trans h.size k.size, fun i hi hs => (k.block i (Nat.lt_of_lt_of_le hi h.size) (fun ht => hs (hst i hi ht))).trans (h.block i hi hs)⟩
theorem Keeps.alloc {S : Nat → Prop} {a w : World} (h : Keeps S a w) (o : Obj) : Keeps S a (w.alloc o) :=
  h.trans ⟨rfl, rfl, rfl, by simp, fun k hk _ => Below.heap_alloc _ _ _ hk⟩
theorem Keeps.setCell {S : Nat → Prop} {a w : World} (h : Keeps S a w) {p : Addr} (hp : a.heap.size ≤ p.block ∨ S p.block) (v : Value) : Keeps S a (w.setCell p v) :=
  ⟨h.os, h.tape, h.output, by simpa using h.size, fun k hk hs => (Below.heap_setCell _ _ _ _ (by
    intro e; rcases hp with hp | hp
    · omega
    · exact hs (e ▸ hp))).trans (h.block k hk hs)⟩
theorem Keeps.below {S : Nat → Prop} {a w : World} (h : Keeps S a w) (B : Nat) (hB : B ≤ a.heap.size) (hS : ∀ k, S k → B ≤ k) : Below B a w :=
  ⟨h.os, h.tape, h.output, h.size, fun k hk => h.block k (by omega) (fun hs => by have := hS k hs; omega)⟩
theorem Keeps.old {S : Nat → Prop} {a w : World} (h : Keeps S a w) {k : Nat} {o : Obj} (hk : a.heap[k]? = some o) (hs : ¬ S k) : w.heap[k]? = some o := (h.block k (lt_of_block hk) hs).trans hk
theorem Tz.keeps {S : Nat → Prop} {w w' : World} (h : Tz w) (k : Keeps S w w') (h0 : ¬ S 0) : Tz w' := by
  intro i hi
  have hc := h i hi
  have hb : 0 < w.heap.size := World.block_lt_of_cell? _ _ hc
  rw [← hc]
  simp only [World.cell?, k.block 0 hb h0]

/-- What a slot holds. -/
def slotVal (bf : Int → Nat) : Option Int → Value
  | none => .pointer none
  | some k => .pointer (some ⟨bf k, 0, none⟩)
def slotCells (bf : Int → Nat) (K : List (Option Int)) : Array Value := (K.map (slotVal bf)).toArray
theorem slotCells_size (bf : Int → Nat) (K : List (Option Int)) : (slotCells bf K).size = K.length := by simp [slotCells]
theorem slotCells_get (bf : Int → Nat) (K : List (Option Int)) (x : Nat) (h : x < K.length) : (slotCells bf K)[x]? = some (slotVal bf (sl K x)) := by
  unfold slotCells sl
  simp [h]
theorem slotCells_set (bf : Int → Nat) (K : List (Option Int)) (x : Nat) (v : Option Int) : (slotCells bf K).setIfInBounds x (slotVal bf v) = slotCells bf (K.set x v) := by
  simp [slotCells, List.map_set]
theorem slotCells_congr {bf bf' : Int → Nat} {K : List (Option Int)} (h : ∀ k, (∃ x, sl K x = some k) → bf' k = bf k) : slotCells bf' K = slotCells bf K := by
  unfold slotCells
  congr 1
  apply List.map_congr_left
  intro v hv
  cases v with
  | none => rfl
  | some k =>
    obtain ⟨x, hx, e⟩ := List.getElem_of_mem hv
    simp only [slotVal]
    rw [h k ⟨x, by unfold sl; rw [List.getElem?_eq_getElem hx, e]; rfl⟩]

/-- An entry's cells. -/
def entCells (k : Int) (v : Value) (a b : Nat) : Array Value := #[.int .u64 k, v, .pointer (some ⟨a, 0, none⟩), .pointer (some ⟨b, 0, none⟩)]

/-- The key at a place in the order of coming. -/
def oat (O : List Int) (i : Nat) : Int := O[i]?.getD 0
/-- The ring of entries: place 0 is its end, and so is the place behind the last one. -/
def node (bf : Int → Nat) (e0 : Nat) (O : List Int) : Nat → Nat
  | 0 => e0
  | i + 1 => if i < O.length then bf (oat O i) else e0

theorem oat_mem {O : List Int} {i : Nat} (h : i < O.length) : oat O i ∈ O := by
  unfold oat
  rw [List.getElem?_eq_getElem h]
  exact List.getElem_mem h
theorem mem_oat {O : List Int} {k : Int} (h : k ∈ O) : ∃ i, i < O.length ∧ oat O i = k := by
  obtain ⟨i, hi, e⟩ := List.getElem_of_mem h
  exact ⟨i, hi, by unfold oat; rw [List.getElem?_eq_getElem hi, e]; rfl⟩
theorem oat_inj {O : List Int} (hd : O.Nodup) {i j : Nat} (hi : i < O.length) (hj : j < O.length) (e : oat O i = oat O j) : i = j := by
  unfold oat at e
  rw [List.getElem?_eq_getElem hi, List.getElem?_eq_getElem hj] at e
  exact (List.getElem_inj hd).1 e

/-- The types of a table's blocks: the table, a slot's pointer, an entry; an entry's value where there is none. -/
structure Kinds where
  tab : TypeId
  slot : TypeId
  ent : TypeId
  zero : Value

/-- The blocks of a table. -/
def Own (b s e0 : Nat) (O : List Int) (bf : Int → Nat) (k : Nat) : Prop := k = b ∨ k = s ∨ k = e0 ∨ ∃ q, q ∈ O ∧ k = bf q

structure TabAt (T : Kinds) (w : World) (b s e0 : Nat) (K : List (Option Int)) (O : List Int) (bf : Int → Nat) (vf : Int → Value) : Prop where
  tab : w.heap[b]? = some (.cells #[.slice (some ⟨s, 0, none⟩) K.length K.length, .int .i64 O.length, .pointer (some ⟨e0, 0, none⟩)] T.tab (0, 0))
  slots : w.heap[s]? = some (.cells (slotCells bf K) T.slot (0, 0))
  sent : w.heap[e0]? = some (.cells (entCells 0 T.zero (node bf e0 O O.length) (node bf e0 O 1)) T.ent (0, 0))
  ent : ∀ i, i < O.length → w.heap[bf (oat O i)]? = some (.cells (entCells (oat O i) (vf (oat O i)) (node bf e0 O i) (node bf e0 O (i + 2))) T.ent (0, 0))
  bs : b ≠ s
  be : b ≠ e0
  se : s ≠ e0
  kb : ∀ k, k ∈ O → bf k ≠ b ∧ bf k ≠ s ∧ bf k ≠ e0
  binj : ∀ k q, k ∈ O → q ∈ O → bf k = bf q → k = q
  nd : O.Nodup

section
variable {T : Kinds} {w w' : World} {b s e0 : Nat} {K : List (Option Int)} {O : List Int} {bf : Int → Nat} {vf : Int → Value}
theorem TabAt.c0 (h : TabAt T w b s e0 K O bf vf) : w.cell? ⟨b, 0, none⟩ = some (.slice (some ⟨s, 0, none⟩) K.length K.length) := by rw [cell_of_block h.tab]; rfl
theorem TabAt.c1 (h : TabAt T w b s e0 K O bf vf) : w.cell? ⟨b, 1, none⟩ = some (.int .i64 O.length) := by rw [cell_of_block h.tab]; rfl
theorem TabAt.c2 (h : TabAt T w b s e0 K O bf vf) : w.cell? ⟨b, 2, none⟩ = some (.pointer (some ⟨e0, 0, none⟩)) := by rw [cell_of_block h.tab]; rfl
theorem TabAt.cs (h : TabAt T w b s e0 K O bf vf) (x : Nat) (hx : x < K.length) : w.cell? ⟨s, x, none⟩ = some (slotVal bf (sl K x)) := by rw [cell_of_block h.slots, slotCells_get bf K x hx]
theorem TabAt.fb (h : TabAt T w b s e0 K O bf vf) (i : Nat) : w.frozen? ⟨b, i, none⟩ = false := frozen_of_block h.tab i
theorem TabAt.fs (h : TabAt T w b s e0 K O bf vf) (i : Nat) : w.frozen? ⟨s, i, none⟩ = false := frozen_of_block h.slots i
theorem TabAt.fe (h : TabAt T w b s e0 K O bf vf) (i : Nat) : w.frozen? ⟨e0, i, none⟩ = false := frozen_of_block h.sent i
theorem TabAt.key (h : TabAt T w b s e0 K O bf vf) {k : Int} (hk : k ∈ O) :
    ∃ a c, w.heap[bf k]? = some (.cells (entCells k (vf k) a c) T.ent (0, 0)) := by
  obtain ⟨i, hi, rfl⟩ := mem_oat hk
  exact ⟨_, _, h.ent i hi⟩
theorem TabAt.kept {S : Nat → Prop} (h : TabAt T w b s e0 K O bf vf) (k : Keeps S w w') (hS : ∀ i, Own b s e0 O bf i → ¬ S i) : TabAt T w' b s e0 K O bf vf :=
  ⟨k.old h.tab (hS _ (.inl rfl)), k.old h.slots (hS _ (.inr (.inl rfl))), k.old h.sent (hS _ (.inr (.inr (.inl rfl)))),
    fun i hi => k.old (h.ent i hi) (hS _ (.inr (.inr (.inr ⟨_, oat_mem hi, rfl⟩)))), h.bs, h.be, h.se, h.kb, h.binj, h.nd⟩
theorem TabAt.lt (h : TabAt T w b s e0 K O bf vf) {k : Nat} (hk : Own b s e0 O bf k) : k < w.heap.size := by
  rcases hk with rfl | rfl | rfl | ⟨q, hq, rfl⟩
  · exact lt_of_block h.tab
  · exact lt_of_block h.slots
  · exact lt_of_block h.sent
  · obtain ⟨_, _, e⟩ := h.key hq
    exact lt_of_block e
end

/-- What a look for a key reads. -/
structure Seen (w : World) (b s : Nat) (p : Nat) (K : List (Option Int)) (bf : Int → Nat) : Prop where
  len : K.length = 2 ^ p
  p3 : 3 ≤ p
  p63 : p < 48
  c0 : w.cell? ⟨b, 0, none⟩ = some (.slice (some ⟨s, 0, none⟩) K.length K.length)
  cs : ∀ x, x < K.length → w.cell? ⟨s, x, none⟩ = some (slotVal bf (sl K x))
  ck : ∀ x k, sl K x = some k → w.cell? ⟨bf k, 0, none⟩ = some (.int .u64 k)

theorem TabAt.seen {T : Kinds} {w : World} {b s e0 p : Nat} {K : List (Option Int)} {O : List Int} {bf : Int → Nat} {vf : Int → Value} (h : TabAt T w b s e0 K O bf vf)
    (hl : K.length = 2 ^ p) (h3 : 3 ≤ p) (h48 : p < 48) (hm : ∀ x k, sl K x = some k → k ∈ O) : Seen w b s p K bf :=
  ⟨hl, h3, h48, h.c0, h.cs, fun x k hx => by
    obtain ⟨_, _, e⟩ := h.key (hm x k hx)
    rw [cell_of_block e]
    rfl⟩

end Go.Proofs.YtmhinalgjfiliaaDoor
