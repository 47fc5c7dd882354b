
/- What stands between two rounds of RoomApart (layer 20): the tx, the pieces that are out, the rows of those that were given back. No statement of the seat is proved here. -/
import Derived.Test.YthelfalmjihkdaaRaC
import Derived.Test.YthelfalmjihkdaaRaD
namespace Go.Proofs.Ythelfalmjihkdaa
open Go.RowKit

def updV (f : Nat → Value) (n : Nat) (v : Value) : Nat → Value := fun m => if m = n then v else f m
theorem updV_same (f : Nat → Value) (n : Nat) (v : Value) : updV f n v n = v := by unfold updV; rw [if_pos rfl]
theorem updV_other (f : Nat → Value) {n m : Nat} (v : Value) (h : m ≠ n) : updV f n v m = f m := by unfold updV; rw [if_neg h]
def arrV (vb : Nat → Value) : Array Value := ((List.range 17).map vb).toArray
theorem arrV_get (vb : Nat → Value) {j : Nat} (h : j < 17) : (arrV vb)[j]? = some (vb j) := by simp [arrV, h]
theorem arrV_set (vb : Nat → Value) (j : Nat) (v : Value) : (arrV vb).setIfInBounds j v = arrV (updV vb j v) := by
  unfold arrV
  apply Array.ext'
  simp only [Array.toList_setIfInBounds]
  apply List.ext_getElem
  · simp
  · intro i h1 h2
    rw [List.getElem_set]
    by_cases e : j = i
    · subst e; simp [updV]
    · have e' : i ≠ j := fun q => e q.symm
      simp [e, updV, e']
/-- The last one of a row is taken off. -/
theorem Wr.pop {w : World} {base : Nat} {v : Value} {r : List Int} {a : Int} (h : Wr w base v (r ++ [a])) : ∃ g cap, v = .slice (some ⟨g, 0, none⟩) (r.length + 1) cap ∧ r.length + 1 ≤ cap ∧ w.cell? ⟨g, r.length, none⟩ = some (.int .u64 a) ∧ Wr w base (.slice (some ⟨g, 0, none⟩) r.length cap) r := by
  have hc := h.lies
  rcases id h.2 with ⟨_, e⟩ | ⟨g, cap, cur, rfl, h1, h2, h3, h4, h5, h6⟩
  · simp at e
  · refine ⟨g, cap, by simp, by simpa using h3, ?_, ⟨by simp [wordsV], .inr ⟨g, cap, cur, rfl, h1, h2, by simp at h3; omega, h4, h5, ?_⟩⟩⟩
    · have q := World.ownsRow.cellAt h r.length (by simp)
      rw [q]
      simp [wordsV]
    · have e : (cur.toList.take ((r ++ [a]).length * 1)).take (r.length * 1) = (wordsV (r ++ [a])).take (r.length * 1) := by rw [h6]
      rw [List.take_take, Nat.min_eq_left (by simp)] at e
      rw [e, wordsV_append]
      rw [show r.length * 1 = (wordsV r).length by simp [wordsV], List.take_left]

structure Ap (w : World) (base t b g c ab : Nat) (s : Wd) (vo : Value) (O : List (Int × Int)) (vb : Nat → Value) (bk : Nat → List Int) : Prop where
  tw : Tw w t b g c s
  arr : w.heap[ab]? = some (.cells (arrV vb) 43 (0, 0))
  out : Ow w base vo O
  rows : ∀ n, n < 17 → Wr w base (vb n) (bk n)
  base : base ≤ w.heap.size
  a1 : ab ≠ t ∧ ab ≠ b ∧ ab ≠ g
  a2 : ∀ q, vo.ownBlock = some q → q ≠ t ∧ q ≠ b ∧ q ≠ g ∧ q ≠ ab
  a3 : ∀ n, n < 17 → ∀ q, (vb n).ownBlock = some q → q ≠ t ∧ q ≠ b ∧ q ≠ g ∧ q ≠ ab ∧ vo.ownBlock ≠ some q
  a4 : ∀ n m, n < 17 → m < 17 → n ≠ m → ∀ q, (vb n).ownBlock = some q → (vb m).ownBlock ≠ some q

section
variable {w w' : World} {base t b g c ab : Nat} {s s' : Wd} {vo v' : Value} {O O' : List (Int × Int)} {vb : Nat → Value} {bk : Nat → List Int}
theorem Ap.ltab (h : Ap w base t b g c ab s vo O vb bk) : ab < w.heap.size := lt_of_block h.arr
theorem Ap.cell (h : Ap w base t b g c ab s vo O vb bk) {j : Nat} (hj : j < 17) : w.cell? ⟨ab, j, none⟩ = some (vb j) := by rw [cell_of_block h.arr, arrV_get vb hj]
theorem Ap.frozen (h : Ap w base t b g c ab s vo O vb bk) (j : Nat) : w.frozen? ⟨ab, j, none⟩ = false := frozen_of_block h.arr j
theorem Ap.new (h : Ap w base t b g c ab s vo O vb bk) (k : Keeps (fun _ => False) w w') : Ap w' base t b g c ab s vo O vb bk :=
  ⟨⟨h.tw.tx.kept k (fun f => f), h.tw.wd.kept k (fun f => f) (fun f => f), h.tw.ne⟩, (k.block ab h.ltab (fun f => f)).trans h.arr, h.out.keeps k (fun _ _ f => f), fun n hn => own_keeps (h.rows n hn) k (fun _ _ f => f), Nat.le_trans h.base k.size, h.a1, h.a2, h.a3, h.a4⟩
theorem Ap.own (h : Ap w base t b g c ab s vo O vb bk) (h1 : Tw w' t b g c s') (k : Keeps (two b g) w w') : Ap w' base t b g c ab s' vo O vb bk :=
  ⟨h1, (k.block ab h.ltab (fun e => by rcases e with e | e; exact h.a1.2.1 e; exact h.a1.2.2 e)).trans h.arr, h.out.keeps k (fun q hq e => by rcases e with e | e; exact (h.a2 q hq).2.1 e; exact (h.a2 q hq).2.2.1 e), fun n hn => own_keeps (h.rows n hn) k (fun q hq e => by rcases e with e | e; exact (h.a3 n hn q hq).2.1 e; exact (h.a3 n hn q hq).2.2.1 e), Nat.le_trans h.base k.size, h.a1, h.a2, h.a3, h.a4⟩
theorem Ap.lts (h : Ap w base t b g c ab s vo O vb bk) : t < w.heap.size ∧ b < w.heap.size ∧ g < w.heap.size ∧ ab < w.heap.size := ⟨h.tw.tx.lt, h.tw.wd.ltb, h.tw.wd.ltg, h.ltab⟩
/-- The row of pieces that are out is another one. -/
theorem Ap.outs (h : Ap w base t b g c ab s vo O vb bk) (k : Keeps (fun q => vo.ownBlock = some q) w w') (ho : Ow w' base v' O') (hn : ∀ q, v'.ownBlock = some q → vo.ownBlock = some q ∨ w.heap.size ≤ q) : Ap w' base t b g c ab s v' O' vb bk := by
  have l := h.lts
  refine ⟨⟨h.tw.tx.kept k (fun e => (h.a2 _ e).1 rfl), h.tw.wd.kept k (fun e => (h.a2 _ e).2.1 rfl) (fun e => (h.a2 _ e).2.2.1 rfl), h.tw.ne⟩, (k.block ab h.ltab (fun e => (h.a2 _ e).2.2.2 rfl)).trans h.arr, ho, fun n hn' => own_keeps (h.rows n hn') k (fun q hq e => (h.a3 n hn' q hq).2.2.2.2 e), Nat.le_trans h.base k.size, h.a1, fun q hq => ?_, fun n hn' q hq => ?_, h.a4⟩
  · rcases hn q hq with e | e
    · exact h.a2 q e
    · omega
  · have p := h.a3 n hn' q hq
    have p2 := (own_block (h.rows n hn') hq).1
    refine ⟨p.1, p.2.1, p.2.2.1, p.2.2.2.1, fun e => ?_⟩
    rcases hn q e with e | e
    · exact p.2.2.2.2 e
    · omega
/-- A row of pieces that were given back is another one. -/
theorem Ap.row {w1 : World} {l' : List Int} (h : Ap w base t b g c ab s vo O vb bk) {j : Nat} (hj : j < 17) (k : Keeps (fun q => (vb j).ownBlock = some q) w w1) (hr : Wr w1 base v' l') (hn : ∀ q, v'.ownBlock = some q → (vb j).ownBlock = some q ∨ w.heap.size ≤ q) : Ap (w1.setCell ⟨ab, j, none⟩ v') base t b g c ab s vo O (updV vb j v') (updL bk j l') := by
  have l := h.lts
  have harr : w1.heap[ab]? = some (.cells (arrV vb) 43 (0, 0)) := (k.block ab h.ltab (fun e => (h.a3 j hj _ e).2.2.2.1 rfl)).trans h.arr
  have k2 : Keeps (fun q => q = ab) w1 (w1.setCell ⟨ab, j, none⟩ v') := (Keeps.refl (fun q => q = ab) w1).setCell (p := ⟨ab, j, none⟩) (.inr rfl) v'
  have nab : ∀ q, v'.ownBlock = some q → q ≠ t ∧ q ≠ b ∧ q ≠ g ∧ q ≠ ab ∧ vo.ownBlock ≠ some q := fun q hq => by
    rcases hn q hq with e | e
    · exact h.a3 j hj q e
    · exact ⟨by omega, by omega, by omega, by omega, fun f => by have := (h.out.own f).1; omega⟩
  refine ⟨⟨(h.tw.tx.kept k (fun e => (h.a3 j hj _ e).1 rfl)).kept k2 (fun e => h.a1.1 e.symm), (h.tw.wd.kept k (fun e => (h.a3 j hj _ e).2.1 rfl) (fun e => (h.a3 j hj _ e).2.2.1 rfl)).kept k2 (fun e => h.a1.2.1 e.symm) (fun e => h.a1.2.2 e.symm), h.tw.ne⟩, by rw [block_set harr j v', arrV_set], (h.out.keeps k (fun q hq e => (h.a3 j hj q e).2.2.2.2 hq)).keeps k2 (fun q hq e => (h.a2 q hq).2.2.2 e), fun n hn' => ?_, Nat.le_trans h.base (Nat.le_trans k.size k2.size), h.a1, h.a2, fun n hn' q hq => ?_, fun n m hn' hm' hnm q hq => ?_⟩
  · by_cases e : n = j
    · subst e
      rw [updV_same, updL_same]
      exact own_keeps hr k2 (fun q hq e => (nab q hq).2.2.2.1 e)
    · rw [updV_other _ _ e, updL_other _ _ e]
      exact own_keeps (own_keeps (h.rows n hn') k (fun q hq f => h.a4 n j hn' hj e q hq f)) k2 (fun q hq f => (h.a3 n hn' q hq).2.2.2.1 f)
  · by_cases e : n = j
    · subst e
      rw [updV_same] at hq
      exact nab q hq
    · rw [updV_other _ _ e] at hq
      exact h.a3 n hn' q hq
  · by_cases e : n = j
    · subst e
      rw [updV_same] at hq
      rw [updV_other _ _ (Ne.symm hnm)]
      intro f
      rcases hn q hq with e | e
      · exact h.a4 m n hm' hn' (Ne.symm hnm) q f e
      · have := (own_block (h.rows m hm') f).1; omega
    · rw [updV_other _ _ e] at hq
      by_cases e2 : m = j
      · subst e2
        rw [updV_same]
        intro f
        rcases hn q f with e3 | e3
        · exact h.a4 n m hn' hm' hnm q hq e3
        · have := (own_block (h.rows n hn') hq).1; omega
      · rw [updV_other _ _ e2]
        exact h.a4 n m hn' hm' hnm q hq
end
end Go.Proofs.Ythelfalmjihkdaa
