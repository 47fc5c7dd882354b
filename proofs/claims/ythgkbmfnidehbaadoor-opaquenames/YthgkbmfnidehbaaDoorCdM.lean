/-
  No statement of the seat is proved here. (Several texts in one: CdA, CdB, CdC, CdD, CdE.)
-/
import Derived.Test.YthgkbmfnidehbaaDoorProg
import Derived.Test.YthgkbmfnidehbaaDoorCMem
import Derived.WalkKit
import Derived.WalkSpells
import Derived.WalkLawsBesides
import Derived.Lib.ItoaNum
import Derived.Laws.IdiomStrings
import Derived.Deep.RegionHeld3
import Derived.Lib.ItoaLen
import Derived.Shelf.RegionOpen
import Derived.Deep.Upon
import Derived.Laws.AppendOwn
import Derived.OwnWalk

/- Walks of the program's small functions on operations (package code): known, regs, number, where, parts, Info, Name, Named, Formed. No statement of the seat is proved here. -/
namespace Go.Proofs.YthgkbmfnidehbaaDoor
open Go.RowKit

/-- The operations' names, by their numbers. -/
def nms : List (List UInt8) := [[], [99, 111, 110, 115, 116], [109, 111, 118, 101], [97, 100, 100], [115, 117, 98], [109, 117, 108], [108, 101, 115, 115], [101, 113, 117, 97, 108], [106, 117, 109, 112], [122, 101, 114, 111], [108, 111, 97, 100], [115, 116, 111, 114, 101], [98, 101, 103, 105, 110], [103, 101, 116], [112, 117, 116], [101, 110, 100], [97, 98, 111, 114, 116], [104, 97, 108, 116]]
def nm (i : Nat) : ByteArray := ⟨((nms[i]?).getD []).toArray⟩
/-- How many registers, is there a number, is it a target, outside, inside. -/
def regsN (op : Int) : Nat := ([0, 1, 2, 3, 3, 3, 3, 3, 0, 1, 2, 2, 0, 2, 2, 0, 0, 0][op.toNat]?).getD 0
def numB (op : Int) : Bool := ([false, true, false, false, false, false, false, false, true, true, false, false, false, false, false, false, true, false][op.toNat]?).getD false
def tgtB (op : Int) : Bool := ([false, false, false, false, false, false, false, false, true, true, false, false, false, false, false, false, true, false][op.toNat]?).getD false
def outB (op : Int) : Bool := ([false, true, true, true, true, true, true, true, true, true, true, true, true, false, false, false, false, true][op.toNat]?).getD false
def insB (op : Int) : Bool := ([false, true, true, true, true, true, true, true, true, true, false, false, false, true, true, true, true, false][op.toNat]?).getD false
def partsN (op : Int) : Nat := if numB op then regsN op + 1 else regsN op

theorem op17 {op : Int} (h0 : 1 ≤ op) (h1 : op ≤ 17) : op = 1 ∨ op = 2 ∨ op = 3 ∨ op = 4 ∨ op = 5 ∨ op = 6 ∨ op = 7 ∨ op = 8 ∨ op = 9 ∨ op = 10 ∨ op = 11 ∨ op = 12 ∨ op = 13 ∨ op = 14 ∨ op = 15 ∨ op = 16 ∨ op = 17 := by omega
theorem regsN_le {op : Int} (h0 : 1 ≤ op) (h1 : op ≤ 17) : regsN op ≤ 3 ∧ (numB op = true → regsN op ≤ 1) := by
  rcases op17 h0 h1 with rfl | rfl | rfl | rfl | rfl | rfl | rfl | rfl | rfl | rfl | rfl | rfl | rfl | rfl | rfl | rfl | rfl <;> decide
theorem partsN_le {op : Int} (h0 : 1 ≤ op) (h1 : op ≤ 17) : partsN op ≤ 3 := by
  rcases op17 h0 h1 with rfl | rfl | rfl | rfl | rfl | rfl | rfl | rfl | rfl | rfl | rfl | rfl | rfl | rfl | rfl | rfl | rfl <;> decide

/-- The program's table of names, where it lies. -/
def Nms (w : World) : Prop := ∀ i : Nat, i < 18 → w.cell? ⟨0, i, none⟩ = some (.string (nm i))
theorem Nms.lt {w : World} (h : Nms w) : 0 < w.heap.size := World.block_lt_of_cell? _ _ (h 0 (by decide))
theorem Nms.below {w w' : World} (h : Nms w) (k : Below w.heap.size w w') : Nms w' := by
  intro i hi
  rw [← h i hi]
  simp only [World.cell?, k.block 0 h.lt]
theorem Nms.keeps {w w' : World} {S : Nat → Prop} (h : Nms w) (k : Keeps S w w') (hs : ¬ S 0) : Nms w' := by
  intro i hi
  rw [← h i hi]
  simp only [World.cell?, k.block 0 h.lt hs]

end Go.Proofs.YthgkbmfnidehbaaDoor


/- Walks of Info, Name, Named, Formed (package code). No statement of the seat is proved here. -/
namespace Go.Proofs.YthgkbmfnidehbaaDoor
open Go.RowKit

/-- What an operation is made of. -/
def formV (op : Int) : Array Value := #[.int .i64 (regsN op), .bool (numB op), .bool (tgtB op), .bool (outB op), .bool (insB op)]

/-- An instruction. -/
structure I5 where
  op : Int
  a : Int
  b : Int
  c : Int
  n : Int
@[reducible] def I5.cells (i : I5) : Array Value := #[.int .i64 i.op, .int .i64 i.a, .int .i64 i.b, .int .i64 i.c, .int .u64 i.n]
def okR (m k r : Int) : Bool := if k < m then decide (0 ≤ r ∧ r < 8) else decide (r = 0)
def formedB (i : I5) : Bool := decide (1 ≤ i.op ∧ i.op ≤ 17) && (numB i.op || decide (i.n = 0)) && okR (regsN i.op) 0 i.a && okR (regsN i.op) 1 i.b && okR (regsN i.op) 2 i.c

theorem okR_yes {m k r : Int} (h : okR m k r = true) : (k < m ∧ 0 ≤ r ∧ r < 8) ∨ (m ≤ k ∧ r = 0) := by
  unfold okR at h
  split at h
  · simp at h; left; omega
  · simp at h; right; omega
theorem okR_no {m k r : Int} (h : okR m k r = false) : (k < m ∧ 0 ≤ r ∧ 8 ≤ r) ∨ (k < m ∧ r < 0) ∨ (m ≤ k ∧ r ≠ 0) := by
  unfold okR at h
  split at h
  · simp at h; by_cases h2 : 0 ≤ r
    · left; have := h h2; omega
    · right; left; omega
  · simp at h; right; right; omega
end Go.Proofs.YthgkbmfnidehbaaDoor


/- Walks of digits (package code): a number in decimal digits. No statement of the seat is proved here. -/
namespace Go.Proofs.YthgkbmfnidehbaaDoor
open Go.RowKit

def zeros20 : Array Value := #[.int .u8 0, .int .u8 0, .int .u8 0, .int .u8 0, .int .u8 0, .int .u8 0, .int .u8 0, .int .u8 0, .int .u8 0, .int .u8 0, .int .u8 0, .int .u8 0, .int .u8 0, .int .u8 0, .int .u8 0, .int .u8 0, .int .u8 0, .int .u8 0, .int .u8 0, .int .u8 0]

/-- Bytes of a block from place m on. -/
def Tail (c : Array Value) (m : Nat) (l : List UInt8) : Prop := c.size = 20 ∧ m + l.length = 20 ∧ ∀ j (hj : j < l.length), c[m + j]? = some (.int .u8 (l[j]).toNat)
theorem Tail.nil : Tail zeros20 20 [] := ⟨rfl, rfl, fun j hj => by simp at hj⟩
theorem Tail.cons {c : Array Value} {m : Nat} {l : List UInt8} (h : Tail c (m + 1) l) (x : UInt8) : Tail (c.setIfInBounds m (.int .u8 x.toNat)) m (x :: l) := by
  obtain ⟨h1, h2, h3⟩ := h
  refine ⟨by simpa using h1, by simp; omega, ?_⟩
  intro j hj
  cases j with
  | zero => simp [Array.getElem?_setIfInBounds, h1]; omega
  | succ j =>
    rw [Array.getElem?_setIfInBounds_ne (by omega)]
    have := h3 j (by simpa using hj)
    rw [show m + (j + 1) = m + 1 + j by omega, this]
    simp

theorem byte_of (d : Nat) (hd : d < 10) : (UInt8.ofNat (48 + d)).toNat = 48 + d := by
  simp; omega

end Go.Proofs.YthgkbmfnidehbaaDoor


/- Walks of numbers and Text (package code). No statement of the seat is proved here. -/
namespace Go.Proofs.YthgkbmfnidehbaaDoor
open Go.RowKit Go.Shelf

/-- The numbers behind a formed instruction's operation, and what stands behind them. -/
def num3 (i : I5) : List Int := if numB i.op then [i.a, i.b, i.c].set (regsN i.op) i.n else [i.a, i.b, i.c]
def numL (i : I5) : List Int := (num3 i).take (partsN i.op)

theorem formed_facts {i : I5} (h : formedB i = true) : (1 ≤ i.op ∧ i.op ≤ 17) ∧ (numB i.op = false → i.n = 0) ∧ (0 ≤ i.a ∧ i.a < 8) ∧ (0 ≤ i.b ∧ i.b < 8) ∧ (0 ≤ i.c ∧ i.c < 8) := by
  unfold formedB at h
  simp only [Bool.and_eq_true, decide_eq_true_eq, Bool.or_eq_true] at h
  obtain ⟨⟨⟨⟨h1, h2⟩, h3⟩, h4⟩, h5⟩ := h
  refine ⟨h1, fun hn => ?_, ?_, ?_, ?_⟩
  · rcases h2 with h2 | h2
    · rw [hn] at h2; cases h2
    · exact h2
  · rcases okR_yes h3 with h | h <;> omega
  · rcases okR_yes h4 with h | h <;> omega
  · rcases okR_yes h5 with h | h <;> omega

theorem heap_two (w : World) (o o' : Obj) : ((w.alloc o).alloc o').heap[w.heap.size + 1]? = some o' := by
  have := (MapKept.heap_alloc (w.alloc o) o').1
  simpa using this

/-- A text: the name, then each number behind a blank. -/
def blanked (l : List Int) : List UInt8 := l.flatMap fun n => 32 :: Lib.decDigits n.toNat
def textL (i : I5) : List UInt8 := (nms[i.op.toNat]?).getD [] ++ blanked (numL i)

theorem num3_length (i : I5) : (num3 i).length = 3 := by unfold num3; split <;> simp
theorem num3_bound {i : I5} (h : formedB i = true) (hn0 : 0 ≤ i.n) (hn : i.n < 18446744073709551616) : ∀ x ∈ num3 i, 0 ≤ x ∧ x < 18446744073709551616 := by
  obtain ⟨-, -, ha, hb, hc⟩ := formed_facts h
  intro x hx
  unfold num3 at hx
  split at hx
  · rcases List.mem_or_eq_of_mem_set hx with h | h
    · simp at h; omega
    · omega
  · simp at hx; omega

theorem str_app (l m : List UInt8) : (⟨l.toArray⟩ : ByteArray) ++ ⟨m.toArray⟩ = ⟨(l ++ m).toArray⟩ := by
  apply ByteArray.ext
  simp

end Go.Proofs.YthgkbmfnidehbaaDoor


/- Rows of the call's own that grow, of elements of any size; walks of sevens (package code). No statement of the seat is proved here. -/
namespace Go.Proofs.YthgkbmfnidehbaaDoor
open Go.RowKit Go.Shelf

/-- An append whose run is known, at its place in the walk. -/
theorem wpList_append_run {P : Program} {w : World} {ops : Array Oper} {rest : List Oper} {o : Oper} {a : Act} {Q : Exit → Act → World → Prop} (hgd : o.guard = none) (s x : Operand) (t : TypeId)
    (ho : o.op = .call { callee := .builtin .append, args := #[s, x], argTypes := #[t, t] }) {v y v' : Value} {w' : World} (hs : a.eval s = v) (hx : a.eval x = y)
    (hrun : (Builtin.append_ #[t, t] o.type #[v, y]).run P w = .ok v' w') (h : wpList P ops Q rest (a.put o.dst v') w') : wpList P ops Q (o :: rest) a w :=
  wpList_plain hgd fun K hK => by
    unfold Oper.wp execOp
    simp only [ho, resolve, invoke, builtin, Sem.run_bind, Sem.run_pure, Result.andThen_ok, List.map_toArray, List.map_cons, List.map_nil, hs, hx, hrun]
    exact hK _ _ h

theorem addr_add (b o i : Nat) : (⟨b, o, none⟩ : Addr).add i = ⟨b, o + i, none⟩ := by unfold Addr.add; split <;> simp_all

theorem own_block {w : World} {base size : Nat} {e : TypeId} {v : Value} {n : Nat} {xs : List Value} (h : w.ownsRow base e size v n xs) {g : Nat} (hg : v.ownBlock = some g) : g < w.heap.size ∧ base ≤ g := by
  rcases h.2 with ⟨rfl, rfl⟩ | ⟨g', cap, cur, rfl, h1, h2, _⟩
  · cases hg
  · cases hg; exact ⟨lt_of_block h2, h1⟩
theorem own_keep {w w' : World} {base size : Nat} {e : TypeId} {v : Value} {n : Nat} {xs : List Value} (h : w.ownsRow base e size v n xs) (hk : ∀ g, v.ownBlock = some g → w'.heap[g]? = w.heap[g]?) : w'.ownsRow base e size v n xs := by
  refine ⟨h.1, ?_⟩
  rcases h.2 with ⟨rfl, rfl⟩ | ⟨g', cap, cur, rfl, h1, h2, h3⟩
  · exact .inl ⟨rfl, rfl⟩
  · exact .inr ⟨g', cap, cur, rfl, h1, (hk g' rfl).trans h2, h3⟩
theorem own_keeps {w w' : World} {base size : Nat} {e : TypeId} {v : Value} {n : Nat} {xs : List Value} {S : Nat → Prop} (h : w.ownsRow base e size v n xs) (k : Keeps S w w') (hs : ∀ g, v.ownBlock = some g → ¬ S g) : w'.ownsRow base e size v n xs :=
  own_keep h fun g hg => k.block g (own_block h hg).1 (hs g hg)

/-- More behind a row of the call's own. -/
theorem own_push {P : Program} (w : World) (base : Nat) (t ty e : TypeId) (z : Value) (size bytes : Nat) (ht : P.underlying t = some (.slice e)) (hinfo : (P.info? e).map (fun i => (i.zero, i.size, i.bytes)) = some (some z, size, bytes)) (hzs : z.cells.size = size) (hsz : 0 < size)
    (v : Value) (n : Nat) (xs : List Value) (hown : w.ownsRow base e size v n xs) (ad : Addr) (m c : Nat) (us : List Value) (hl : us.length = m * size) (hu : ∀ (j : Nat) (u : Value), us[j]? = some u → w.cell? (ad.add j) = some u) (h1 : ∀ u ∈ us, u.oneCell' = true) (hbytes : (n + m) * bytes ≤ 140737488355328) (hb1 : 0 < bytes) (hbase : base ≤ w.heap.size) :
    ∃ v' w', (Builtin.append_ #[t, t] ty #[v, .slice (some ad) m c]).run P w = .ok v' w' ∧ w'.ownsRow base e size v' (n + m) (xs ++ us) ∧ w.grownBy w' v.ownBlock ∧ (v'.ownBlock = v.ownBlock ∨ ∀ g, v'.ownBlock = some g → w.heap.size ≤ g) := by
  obtain ⟨i, hi, hz0, hz1, hz2⟩ := info_parts hinfo
  have hnm : n + m ≤ 140737488355328 := Nat.le_trans (Nat.le_mul_of_pos_right _ hb1) hbytes
  have h63 : n + m ≤ maxLen := by simp only [maxLen]; omega
  obtain ⟨v', w', r1, r2, r3, _⟩ := run_append_own (P := P) w base t ty e i z size bytes ht hi hz0 hz1 hz2 hzs hsz v n xs hown ad m c us hl hu h1 h63 hbytes hbase
  refine ⟨v', w', r1, r2, r3, ?_⟩
  rcases hown.2 with ⟨rfl, rfl⟩ | ⟨g, cap, cur, rfl, q1, q2, q3, q4, q5, q6⟩
  · obtain ⟨v2, w2, s1, s2, _⟩ := run_append_own (P := P) w w.heap.size t ty e i z size bytes ht hi hz0 hz1 hz2 hzs hsz (.slice none 0 0) 0 xs ⟨hown.1, .inl ⟨rfl, rfl⟩⟩ ad m c us hl hu h1 h63 hbytes (Nat.le_refl _)
    rw [r1] at s1
    injection s1 with e1 e2
    subst e1; subst e2
    exact .inr fun g hg => (own_block s2 hg).2
  · by_cases hc : n + m ≤ cap
    · have s1 := run_append_room (P := P) w t ty e i ht hi g n cap cur q2 ad m c us (by rw [hz1]; exact hl) hu h1 hc (by rw [hz1, q5, hl, ← Nat.add_mul]; exact Nat.mul_le_mul_right _ hc)
      rw [r1] at s1
      injection s1 with e1 e2
      exact .inl (by rw [e1]; rfl)
    · have s1 := run_append_grow (P := P) w t ty e i z ht hi hz0 ⟨g, 0, none⟩ n cap xs (by rw [hz1]; exact hown.1) (fun j v0 hj => by
        rw [addr_add, Nat.zero_add, cell_of_block q2]
        have hlt : j < n * size := by
          have := (List.getElem?_eq_some_iff.1 hj).1
          rw [hown.1] at this; omega
        rw [← q6, List.getElem?_take_of_lt hlt] at hj
        simpa using hj) ad m c us (by rw [hz1]; exact hl) hu (by omega) (by simp only [maxLen] at h63; omega) (growslice_fits (by omega) (by rw [hz2]; exact hbytes))
      rw [r1] at s1
      injection s1 with e1 e2
      exact .inr fun g' hg => by rw [e1] at hg; cases hg; exact Nat.le_refl _

theorem info_u8 : (Tryd.prog.info? 5).map (fun i => (i.zero, i.size, i.bytes)) = some (some (.int .u8 0), 1, 1) := by kernel_rfl

/-- A row of bytes of the call's own. -/
structure Bts (w : World) (base : Nat) (v : Value) (l : List UInt8) : Prop where
  own : w.ownsRow base 5 1 v l.length (l.map fun b => Value.int .u8 b.toNat)
  base : base ≤ w.heap.size
theorem Bts.nil (w : World) : Bts w w.heap.size (.slice none 0 0) [] := ⟨⟨rfl, .inl ⟨rfl, rfl⟩⟩, Nat.le_refl _⟩
theorem Bts.keeps {w w' : World} {base : Nat} {v : Value} {l : List UInt8} {S : Nat → Prop} (h : Bts w base v l) (k : Keeps S w w') (hs : ∀ g, v.ownBlock = some g → ¬ S g) : Bts w' base v l :=
  ⟨own_keeps h.own k hs, Nat.le_trans h.base k.size⟩
/-- What changes where a row grows. -/
structure Grew (w w' : World) (v v' : Value) : Prop where
  keeps : Keeps (fun g => v.ownBlock = some g) w w'
  own : v'.ownBlock = v.ownBlock ∨ ∀ g, v'.ownBlock = some g → w.heap.size ≤ g
theorem Grew.refl (w : World) (v : Value) : Grew w w v v := ⟨Keeps.refl _ _, .inl rfl⟩
theorem Grew.trans {a b c : World} {u v x : Value} (h : Grew a b u v) (k : Grew b c v x) : Grew a c u x := by
  refine ⟨⟨k.keeps.os.trans h.keeps.os, k.keeps.tape.trans h.keeps.tape, k.keeps.output.trans h.keeps.output, Nat.le_trans h.keeps.size k.keeps.size, fun g hg hs => (k.keeps.block g (Nat.lt_of_lt_of_le hg h.keeps.size) fun e => ?_).trans (h.keeps.block g hg hs)⟩, ?_⟩
  · rcases h.own with ho | ho
    · exact hs (ho ▸ e)
    · have := ho g e; omega
  · rcases k.own with ko | ko
    · rcases h.own with ho | ho
      · exact .inl (ko.trans ho)
      · exact .inr fun g hg => ho g (ko ▸ hg)
    · exact .inr fun g hg => Nat.le_trans h.keeps.size (ko g hg)
theorem Grew.quiet {a b c : World} {u v : Value} (h : Grew a b u v) (k : Keeps (fun _ => False) b c) : Grew a c u v :=
  ⟨h.keeps.trans (k.mono fun _ _ f => f.elim), h.own⟩
theorem Grew.ahead {a b c : World} {u v : Value} (k : Keeps (fun _ => False) a b) (h : Grew b c u v) : Grew a c u v :=
  ⟨(k.mono fun _ _ f => f.elim).trans h.keeps, by rcases h.own with ho | ho; exact .inl ho; exact .inr fun g hg => Nat.le_trans k.size (ho g hg)⟩

/-- A number, seven bits a byte. -/
def sevL (n : Nat) : List UInt8 := if h : 127 < n then UInt8.ofNat (n % 128 + 128) :: sevL (n / 128) else [UInt8.ofNat n]
termination_by n
decreasing_by omega
theorem sevL_more {n : Nat} (h : 127 < n) : sevL n = UInt8.ofNat (n % 128 + 128) :: sevL (n / 128) := by rw [sevL, dif_pos h]
theorem sevL_last {n : Nat} (h : ¬ 127 < n) : sevL n = [UInt8.ofNat n] := by rw [sevL, dif_neg h]
theorem sevL_pos (n : Nat) : 1 ≤ (sevL n).length := by
  by_cases h : 127 < n
  · rw [sevL_more h]; simp
  · rw [sevL_last h]; simp

theorem or128 (n : Nat) : bits .or .u8 ((n : Int) % 256) 128 = ((n % 128 + 128 : Nat) : Int) := by
  show IntKind.u8.wrap ((BitVec.ofInt 8 ((n : Int) % 256) ||| BitVec.ofInt 8 128).toNat : Nat) = _
  have key : (BitVec.ofInt 8 ((n : Int) % 256) ||| BitVec.ofInt 8 128).toNat = n % 128 + 128 := by
    have h256 : ∀ m : Fin 256, (BitVec.ofNat 8 m.val ||| BitVec.ofInt 8 128).toNat = m.val % 128 + 128 := by decide +kernel
    have h1 := h256 ⟨n % 256, by omega⟩
    rw [show BitVec.ofInt 8 ((n : Int) % 256) = BitVec.ofNat 8 (n % 256) from by
      apply BitVec.eq_of_toNat_eq
      rw [BitVec.toNat_ofInt, BitVec.toNat_ofNat]
      omega]
    rw [h1]
    show n % 256 % 128 + 128 = _
    omega
  rw [key]
  simp [IntKind.wrap, IntKind.signed, IntKind.bits]
  omega

theorem sevL_le : ∀ (k n : Nat), n < 128 ^ (k + 1) → (sevL n).length ≤ k + 1
  | k, n, h => by
    by_cases hg : 127 < n
    · rw [sevL_more hg, List.length_cons]
      cases k with
      | zero => simp at h; omega
      | succ k =>
        have : n / 128 < 128 ^ (k + 1) := by
          have : (128 : Nat) ^ (k + 1 + 1) = 128 ^ (k + 1) * 128 := Nat.pow_succ ..
          omega
        have := sevL_le k (n / 128) this
        omega
    · rw [sevL_last hg]; simp
theorem sevL_le10 {n : Nat} (h : n < 18446744073709551616) : (sevL n).length ≤ 10 := sevL_le 9 n (by omega)

/-- What grew is of the call's own: all that was there is kept. -/
theorem Grew.kept {w wr w' : World} {u u' : Value} {X : List UInt8} (h : Grew wr w' u u') (k : Keeps (fun _ => False) w wr) (hb : Bts wr w.heap.size u X) : Keeps (fun _ => False) w w' :=
  ⟨h.keeps.os.trans k.os, h.keeps.tape.trans k.tape, h.keeps.output.trans k.output, Nat.le_trans k.size h.keeps.size, fun g hg hs => (h.keeps.block g (Nat.lt_of_lt_of_le hg k.size) fun e => by
    have := (own_block hb.own e).2; omega).trans (k.block g hg hs)⟩
end Go.Proofs.YthgkbmfnidehbaaDoor
