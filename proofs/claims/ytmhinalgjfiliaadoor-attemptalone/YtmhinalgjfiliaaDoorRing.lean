
/-
  Blocks that a loop's body must leave as they are, and the keys of a table one by one. No statement of the seat is proved here.
-/
import Derived.RangeFuncNested
import Derived.RangeFuncBound
import Derived.RangeFuncCalls
import Derived.RangeFuncLeaves
import Derived.Shelf.Abstract
import Derived.Shelf.RegionOpen
import Derived.WalkKit
import Derived.OwnWalkIn
import Derived.TacticsInMore
import Derived.LoopNIn
import Derived.LoopIn
import Derived.LaidEqlPtr
import Derived.Test.YtmhinalgjfiliaaDoorTabB
namespace Go.Proofs.YtmhinalgjfiliaaDoor
open Go.RowKit

theorem run_neq_other {P : Program} (w : World) {tp te : TypeId} {j : TypeInfo} {a b : Addr} {ca cb : Array Value} {ta tb : TypeId} (hp : P.underlying tp = some (.pointer te)) (hte : P.info? te = some j) (hsz : j.size ≠ 0)
    (hne : a ≠ b) (ha : w.heap[a.block]? = some (.cells ca ta (0, 0))) (hb : w.heap[b.block]? = some (.cells cb tb (0, 0))) :
    (binOp .neq tp (.pointer (some a)) (.pointer (some b))).run P w = .ok (.bool true) w := by
  have h : ∀ d : Nat, (Op.equalIn (d + 1) tp (.pointer (some a)) (.pointer (some b))).run P w = .ok false w := fun d => by
    simp [Op.equalIn, run_underlying hp, sizeOf, typeInfo, hte, hsz, run_sameAddr_other w hne ha hb]
  simp only [binOp]
  simp [Op.equal, Op.maxDepth, h 9999]
theorem run_neq_same {P : Program} (w : World) {tp te : TypeId} {j : TypeInfo} (a : Addr) (hp : P.underlying tp = some (.pointer te)) (hte : P.info? te = some j) :
    (binOp .neq tp (.pointer (some a)) (.pointer (some a))).run P w = .ok (.bool false) w := by
  have h : ∀ d : Nat, (Op.equalIn (d + 1) tp (.pointer (some a)) (.pointer (some a))).run P w = .ok true w := fun d => by
    simp [Op.equalIn, run_underlying hp, sizeOf, typeInfo, hte, run_sameAddr_same]
  simp only [binOp]
  simp [Op.equal, Op.maxDepth, h 9999]

/-- The cells of S are as they were. -/
structure KeptOn (S : Nat → Prop) (W W' : World) : Prop where
  size : W.heap.size ≤ W'.heap.size
  block : ∀ (k : Nat) (c : Array Value) (t : TypeId) (fr : Nat × Nat), S k → W.heap[k]? = some (.cells c t fr) → W'.heap[k]? = some (.cells c t fr)

theorem KeptOn.refl (S : Nat → Prop) (W : World) : KeptOn S W W := ⟨Nat.le_refl _, fun _ _ _ _ _ h => h⟩
theorem KeptOn.trans {S : Nat → Prop} {X Y Z : World} (h : KeptOn S X Y) (k : KeptOn S Y Z) : KeptOn S X Z := ⟨Nat.le_trans h.size k.size, fun i c t fr hS hi => k.block i c t fr hS (h.block i c t fr hS hi)⟩
theorem KeptOn.putObj {S : Nat → Prop} (W : World) (l : Nat) (o o' : Obj) (hl : W.heap[l]? = some o) (ho : o.isCells = false) : KeptOn S W (W.putObj l o') :=
  ⟨by simp, fun k c t fr _ hk => (World.putObj_heap_other (fun e => by
    subst e
    rw [hk] at hl
    cases hl
    simp [Obj.isCells] at ho)).trans hk⟩
theorem KeptOn.keeps {S T : Nat → Prop} {W W' : World} (h : Keeps T W W') (hS : ∀ k, S k → ¬ T k) : KeptOn S W W' :=
  ⟨h.size, fun _ _ _ _ hs hk => h.old hk (hS _ hs)⟩

theorem Keeps.grownNone {w w' : World} (h : Keeps (fun _ => False) w w') : w.grownBy w' none := ⟨h.os, h.tape, h.output, h.size, fun k hk _ => h.block k hk (fun f => f)⟩
theorem Below.grownNone {w w' : World} (h : Below w.heap.size w w') : w.grownBy w' none := ⟨h.os, h.tape, h.output, h.size, fun k hk _ => h.block k hk⟩
theorem Keeps.of_below {a w : World} (h : Below a.heap.size a w) (S : Nat → Prop) : Keeps S a w := ⟨h.os, h.tape, h.output, h.size, fun k hk _ => h.block k hk⟩
theorem block_kept {A B : World} {row : Option Nat} {k : Nat} {c : Array Value} {t : TypeId} {fr : Nat × Nat} (h : A.heap[k]? = some (.cells c t fr)) (hg : A.grownBy B row) (hr : ∀ r, row = some r → ∃ o : Obj, A.heap[r]? = some o ∧ o.isCells = false) : B.heap[k]? = some (.cells c t fr) :=
  (hg.block k (lt_of_block h) (fun e => by
    obtain ⟨o, ho, hc⟩ := hr k e.symm
    rw [h] at ho
    cases ho
    simp [Obj.isCells] at hc)).trans h

/-- The keys up to a place. -/
def firsts (O : List Int) (k : Nat) : List { q // q ∈ O } := O.attach.take k
theorem firsts_length {O : List Int} {k : Nat} (h : k ≤ O.length) : (firsts O k).length = k := by simp [firsts]; omega
theorem firsts_succ {O : List Int} {k : Nat} (h : k < O.length) : firsts O (k + 1) = firsts O k ++ [⟨oat O k, oat_mem h⟩] := by
  unfold firsts
  rw [List.take_succ_eq_append_getElem (by simpa using h)]
  congr 2
  apply Subtype.ext
  simp [oat, h]
theorem firsts_vals (O : List Int) (k : Nat) : (firsts O k).map (·.1) = O.take k := by
  unfold firsts
  rw [List.map_take]
  congr 1
  exact List.attach_map_subtype_val O
theorem firsts_all (O : List Int) : (firsts O O.length).map (·.1) = O := by rw [firsts_vals]; simp

/-- The blocks that a walk over the entries reads. -/
def Walked (bx b e0 : Nat) (O : List Int) (bf : Int → Nat) (k : Nat) : Prop := k = bx ∨ k = b ∨ k = e0 ∨ ∃ q, q ∈ O ∧ k = bf q

/-- The ring of a table's entries, and a box that holds the table's pointer. -/
structure RingAt (T : Kinds) (w : World) (bx b s e0 : Nat) (n : Nat) (O : List Int) (bf : Int → Nat) (vf : Int → Value) : Prop where
  box : ∃ t fr, w.heap[bx]? = some (.cells #[.pointer (some ⟨b, 0, none⟩)] t fr)
  tab : w.heap[b]? = some (.cells #[.slice (some ⟨s, 0, none⟩) n n, .int .i64 O.length, .pointer (some ⟨e0, 0, none⟩)] T.tab (0, 0))
  sent : w.heap[e0]? = some (.cells (entCells 0 T.zero (node bf e0 O O.length) (node bf e0 O 1)) T.ent (0, 0))
  ent : ∀ i, i < O.length → w.heap[bf (oat O i)]? = some (.cells (entCells (oat O i) (vf (oat O i)) (node bf e0 O i) (node bf e0 O (i + 2))) T.ent (0, 0))
  apart : ∀ q, q ∈ O → bf q ≠ e0
  inj : ∀ i j, i ≤ O.length → j ≤ O.length → node bf e0 O (i + 1) = node bf e0 O (j + 1) → i = j
  pos : 0 < n

theorem RingAt.kept {T : Kinds} {w w' : World} {bx b s e0 n : Nat} {O : List Int} {bf : Int → Nat} {vf : Int → Value} (h : RingAt T w bx b s e0 n O bf vf) (k : KeptOn (Walked bx b e0 O bf) w w') : RingAt T w' bx b s e0 n O bf vf := by
  obtain ⟨t, fr, hb⟩ := h.box
  exact ⟨⟨t, fr, k.block _ _ _ _ (.inl rfl) hb⟩, k.block _ _ _ _ (.inr (.inl rfl)) h.tab, k.block _ _ _ _ (.inr (.inr (.inl rfl))) h.sent,
    fun i hi => k.block _ _ _ _ (.inr (.inr (.inr ⟨_, oat_mem hi, rfl⟩))) (h.ent i hi), h.apart, h.inj, h.pos⟩
theorem RingAt.below {T : Kinds} {w w' : World} {bx b s e0 n : Nat} {O : List Int} {bf : Int → Nat} {vf : Int → Value} (h : RingAt T w bx b s e0 n O bf vf) (k : Below w.heap.size w w') : RingAt T w' bx b s e0 n O bf vf :=
  h.kept ⟨k.size, fun i _ _ _ _ hi => (k.block i (lt_of_block hi)).trans hi⟩
theorem TabAt.ring {T : Kinds} {w : World} {bx b s e0 : Nat} {K : List (Option Int)} {O : List Int} {bf : Int → Nat} {vf : Int → Value} {t : TypeId} {fr : Nat × Nat} (h : TabAt T w b s e0 K O bf vf)
    (hp : 0 < K.length) (hb : w.heap[bx]? = some (.cells #[.pointer (some ⟨b, 0, none⟩)] t fr)) : RingAt T w bx b s e0 K.length O bf vf :=
  ⟨⟨t, fr, hb⟩, h.tab, h.sent, h.ent, fun q hq => (h.kb q hq).2.2, fun i j hi hj e => by
    have key : ∀ i, i ≤ O.length → ∃ x, x ≤ O.length ∧ node bf e0 O (i + 1) = node bf e0 O x ∧ (x = i + 1 ∧ i < O.length ∨ x = 0 ∧ i = O.length) := by
      intro i hi
      rcases Nat.lt_or_ge i O.length with h1 | h1
      · exact ⟨i + 1, h1, rfl, .inl ⟨rfl, h1⟩⟩
      · obtain rfl : i = O.length := by omega
        exact ⟨0, Nat.zero_le _, by rw [node_end]; rfl, .inr ⟨rfl, rfl⟩⟩
    obtain ⟨x, hx, ex, cx⟩ := key i hi
    obtain ⟨y, hy, ey, cy⟩ := key j hj
    have := node_inj h x y hx hy (by rw [← ex, ← ey, e])
    omega, hp⟩

/-- The place of a block in the ring. -/
def posOf (bf : Int → Nat) (e0 : Nat) (O : List Int) : Value → Nat
  | .pointer (some a) => ((List.range (O.length + 1)).find? (fun i => node bf e0 O (i + 1) == a.block)).getD 0
  | _ => 0
theorem posOf_node {T : Kinds} {w : World} {bx b s e0 n : Nat} {O : List Int} {bf : Int → Nat} {vf : Int → Value} (h : RingAt T w bx b s e0 n O bf vf) {i : Nat} (hi : i ≤ O.length) (o : Nat) :
    posOf bf e0 O (.pointer (some ⟨node bf e0 O (i + 1), o, none⟩)) = i := by
  show ((List.range (O.length + 1)).find? (fun j => node bf e0 O (j + 1) == node bf e0 O (i + 1))).getD 0 = i
  cases hf : (List.range (O.length + 1)).find? (fun j => node bf e0 O (j + 1) == node bf e0 O (i + 1)) with
  | none =>
    rw [List.find?_eq_none] at hf
    exact absurd (hf i (List.mem_range.2 (by omega))) (by simp)
  | some j =>
    have h1 := List.find?_some hf
    have h2 := List.mem_range.1 (List.mem_of_find?_eq_some hf)
    exact h.inj j i (by omega) hi (by simpa using h1)
end Go.Proofs.YtmhinalgjfiliaaDoor
