
/- The call of a step: do (layer 21). No statement of the seat is proved here. -/
import Derived.Test.YtmnbilhblkobdaaLrA
namespace Go.Proofs.Ytmnbilhblkobdaa
open Go.RowKit

/-- What a call of any kind answers. -/
structure Rp where
  w : Int
  h : Bool
  L : List Int
  e : Int
/-- The call of a step. -/
def Wd.call (s : Wd) (r l kind key : Int) : Rp × Wd :=
  if kind = 1 then (⟨0, (s.insert r l key).1.1, [], (s.insert r l key).1.2⟩, (s.insert r l key).2)
  else if kind = 2 then (⟨0, (s.remove r l key).1.1, [], (s.remove r l key).1.2⟩, (s.remove r l key).2)
  else if kind = 3 then (⟨0, (s.has l key).1.1, [], (s.has l key).1.2⟩, (s.has l key).2)
  else if kind = 4 then (⟨(s.len l).1.1, false, [], (s.len l).1.2⟩, (s.len l).2)
  else if kind = 5 then (⟨(s.above l key).1.1, (s.above l key).1.2.1, [], (s.above l key).1.2.2⟩, (s.above l key).2)
  else if kind = 6 then (⟨(s.first l).1.1, (s.first l).1.2.1, [], (s.first l).1.2.2⟩, (s.first l).2)
  else if kind = 7 then (⟨0, false, (s.keys l).1.1, (s.keys l).1.2⟩, (s.keys l).2)
  else if kind = 8 then (⟨(s.clear r l).1.1, false, [], (s.clear r l).1.2⟩, (s.clear r l).2)
  else if kind = 9 then (if (s.drop r l).1 ≠ 0 then (⟨0, false, [], (s.drop r l).1⟩, (s.drop r l).2) else (⟨((s.drop r l).2.new r).1.1, false, [], ((s.drop r l).2.new r).1.2⟩, ((s.drop r l).2.new r).2))
  else (⟨0, false, [], 0⟩, s)
/-- A reply as it lies. -/
def RpAt (w : World) (q : Nat) (x : Int) (h : Bool) (v : Value) (e : Int) : Prop := w.heap[q]? = some (.cells #[.int .u64 x, .bool h, v, .int .i64 e] 38 (0, 0))
section
variable {w w' : World} {q : Nat} {x e : Int} {h : Bool} {v : Value}
theorem RpAt.c0 (a : RpAt w q x h v e) : w.cell? ⟨q, 0, none⟩ = some (.int .u64 x) := by rw [cell_of_block a]; rfl
theorem RpAt.c1 (a : RpAt w q x h v e) : w.cell? ⟨q, 1, none⟩ = some (.bool h) := by rw [cell_of_block a]; rfl
theorem RpAt.c2 (a : RpAt w q x h v e) : w.cell? ⟨q, 2, none⟩ = some v := by rw [cell_of_block a]; rfl
theorem RpAt.c3 (a : RpAt w q x h v e) : w.cell? ⟨q, 3, none⟩ = some (.int .i64 e) := by rw [cell_of_block a]; rfl
theorem RpAt.fr (a : RpAt w q x h v e) (i : Nat) : w.frozen? ⟨q, i, none⟩ = false := frozen_of_block a i
theorem RpAt.keeps {S : Nat → Prop} (a : RpAt w q x h v e) (k : Keeps S w w') (hq : ¬ S q) : RpAt w' q x h v e := (k.block q (lt_of_block a) hq).trans a
theorem RpAt.set0 (a : RpAt w q x h v e) (x' : Int) : RpAt (w.setCell ⟨q, 0, none⟩ (.int .u64 x')) q x' h v e := by unfold RpAt at *; rw [block_set a]; rfl
theorem RpAt.set1 (a : RpAt w q x h v e) (h' : Bool) : RpAt (w.setCell ⟨q, 1, none⟩ (.bool h')) q x h' v e := by unfold RpAt at *; rw [block_set a]; rfl
theorem RpAt.set2 (a : RpAt w q x h v e) (v' : Value) : RpAt (w.setCell ⟨q, 2, none⟩ v') q x h v' e := by unfold RpAt at *; rw [block_set a]; rfl
theorem RpAt.set3 (a : RpAt w q x h v e) (e' : Int) : RpAt (w.setCell ⟨q, 3, none⟩ (.int .i64 e')) q x h v e' := by unfold RpAt at *; rw [block_set a]; rfl
theorem keeps_cell (w : World) (q i : Nat) (u : Value) : Keeps (fun k => k = q) w (w.setCell ⟨q, i, none⟩ u) := (Keeps.refl (fun k => k = q) w).setCell (p := ⟨q, i, none⟩) (.inr rfl) _
end
theorem size_rp : (Try.prog.info? 38).map (·.size) = some 4 := by kernel_rfl
theorem rp_ret {fn : Func} {p : Tmp} (hf : fn.results = #[.cell p 38]) (tmps : Array Value) (w : World) (q : Nat) (x e : Int) (h : Bool) (v : Value) (a : RpAt w q x h v e)
    (hp : tmps.getD p undef = .pointer (some ⟨q, 0, none⟩)) : (results fn tmps).run Try.prog w = .ok (.agg #[.int .u64 x, .bool h, v, .int .i64 e]) w :=
  results_cell_row hf tmps w q 38 _ (0, 0) _ hp a Try.underlying38 rfl (by rw [size_rp]; rfl)
/-- The state in do: the reply r lies at q9, the answer at q8. -/
structure Dq (w : World) (b g c : Nat) (X : World) (s : Wd) (x : Int) (h : Bool) (v : Value) (e : Int) : Prop where
  hs : Hs w b g c X s
  a9 : RpAt X (w.heap.size + 2) x h v e
  a8 : ∃ x h v e, RpAt X (w.heap.size + 1) x h v e
section
variable {w X X' : World} {b g c : Nat} {s s' : Wd} {x e : Int} {h : Bool} {v : Value}
theorem Dq.acc (d : Dq w b g c X s x h v e) (k : Keeps (two b g) X X') (wd : WdAt X' b g c s') : Dq w b g c X' s' x h v e := by
  obtain ⟨x8, h8, v8, e8, a⟩ := d.a8
  have := d.hs.lb
  exact ⟨d.hs.acc k wd, d.a9.keeps k (by rintro (e | e) <;> omega), x8, h8, v8, e8, a.keeps k (by rintro (e | e) <;> omega)⟩
theorem Dq.own {i : Nat} {u : Value} (d : Dq w b g c X s x h v e) {x' e' : Int} {h' : Bool} {v' : Value} (a : RpAt (X.setCell ⟨w.heap.size + 2, i, none⟩ u) (w.heap.size + 2) x' h' v' e') : Dq w b g c (X.setCell ⟨w.heap.size + 2, i, none⟩ u) s x' h' v' e' := by
  obtain ⟨x8, h8, v8, e8, a8⟩ := d.a8
  have k := keeps_cell X (w.heap.size + 2) i u
  exact ⟨d.hs.own k (fun i e => by omega), a, x8, h8, v8, e8, a8.keeps k (by omega)⟩
theorem Dq.fin (d : Dq w b g c X s x h v e) (x' e' : Int) (h' : Bool) (v' : Value) : RpAt ((((X.setCell ⟨w.heap.size + 1, 0, none⟩ (.int .u64 x')).setCell ⟨w.heap.size + 1, 1, none⟩ (.bool h')).setCell ⟨w.heap.size + 1, 2, none⟩ v').setCell ⟨w.heap.size + 1, 3, none⟩ (.int .i64 e')) (w.heap.size + 1) x' h' v' e' ∧ Hs w b g c ((((X.setCell ⟨w.heap.size + 1, 0, none⟩ (.int .u64 x')).setCell ⟨w.heap.size + 1, 1, none⟩ (.bool h')).setCell ⟨w.heap.size + 1, 2, none⟩ v').setCell ⟨w.heap.size + 1, 3, none⟩ (.int .i64 e')) s ∧ Keeps (fun k => k = w.heap.size + 1) X ((((X.setCell ⟨w.heap.size + 1, 0, none⟩ (.int .u64 x')).setCell ⟨w.heap.size + 1, 1, none⟩ (.bool h')).setCell ⟨w.heap.size + 1, 2, none⟩ v').setCell ⟨w.heap.size + 1, 3, none⟩ (.int .i64 e')) := by
  obtain ⟨x8, h8, v8, e8, a8⟩ := d.a8
  have k := (((keeps_cell X (w.heap.size + 1) 0 (.int .u64 x')).trans (keeps_cell _ (w.heap.size + 1) 1 (.bool h'))).trans (keeps_cell _ (w.heap.size + 1) 2 v')).trans (keeps_cell _ (w.heap.size + 1) 3 (.int .i64 e'))
  exact ⟨(((a8.set0 x').set1 h').set2 v').set3 e', d.hs.own k (fun i e => by omega), k⟩
end
theorem dq_start {w : World} {b g c : Nat} {s : Wd} (h : WdAt w b g c s) (o : Obj) : Dq w b g c (((w.alloc o).alloc (.cells #[.int .u64 0, .bool false, .slice none 0 0, .int .i64 0] 38)).alloc (.cells #[.int .u64 0, .bool false, .slice none 0 0, .int .i64 0] 38)) s 0 false (.slice none 0 0) 0 := by
  have e1 : ∀ (x : World) (o : Obj), (x.alloc o).heap.size = x.heap.size + 1 := fun x o => by simp
  have q1 := alloc_block (w.alloc o) (.cells #[.int .u64 0, .bool false, .slice none 0 0, .int .i64 0] 38)
  have q2 := alloc_block ((w.alloc o).alloc (.cells #[.int .u64 0, .bool false, .slice none 0 0, .int .i64 0] 38)) (.cells #[.int .u64 0, .bool false, .slice none 0 0, .int .i64 0] 38)
  rw [e1] at q1
  rw [e1, e1] at q2
  exact ⟨(Hs.start h).new (((keeps_new w o).alloc _).alloc _), q2, 0, false, .slice none 0 0, 0, RpAt.keeps (e := 0) q1 (keeps_new _ _) (fun f => f)⟩
theorem dq_start8 (w : World) (o : Obj) : RpAt (((w.alloc o).alloc (.cells #[.int .u64 0, .bool false, .slice none 0 0, .int .i64 0] 38)).alloc (.cells #[.int .u64 0, .bool false, .slice none 0 0, .int .i64 0] 38)) (w.heap.size + 1) 0 false (.slice none 0 0) 0 := by
  have q1 := alloc_block (w.alloc o) (.cells #[.int .u64 0, .bool false, .slice none 0 0, .int .i64 0] 38)
  rw [show (w.alloc o).heap.size = w.heap.size + 1 by simp] at q1
  exact RpAt.keeps (e := 0) q1 (keeps_new _ _) (fun f => f)
end Go.Proofs.Ytmnbilhblkobdaa
