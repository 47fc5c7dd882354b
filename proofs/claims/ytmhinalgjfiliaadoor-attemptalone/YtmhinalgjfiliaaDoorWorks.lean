
/-
  The walk of the statements' small examples. No statement of the seat is proved here.
-/
import Derived.Test.YtmhinalgjfiliaaDoorReadsA
import Derived.Test.YtmhinalgjfiliaaDoorRedoM
namespace Go.Proofs.YtmhinalgjfiliaaDoor
open Go.RowKit Go.Shelf

theorem Tz.pos {w : World} (h : Tz w) : 0 < w.heap.size := World.block_lt_of_cell? _ _ (h 0 (by decide))
theorem AddKeeps.own {r : Nat} {v v' : Value} {n : Nat} {w w' : World} (h : AddKeeps r v v' n w w') : (∀ g, v'.ownBlock = some g → v.ownBlock = some g ∨ w.heap.size ≤ g) ∧ Keeps (fun k => k = r ∨ v.ownBlock = some k) w w' := by
  rcases h with ⟨g, h1, h2, h3⟩ | ⟨g, c0, rfl, _, rfl, _, h3⟩
  · refine ⟨fun q hq => ?_, h3.mono (fun k _ e => .inl e)⟩
    rw [h1] at hq
    injection hq with hq
    exact .inr (by omega)
  · exact ⟨fun q hq => .inl hq, h3.mono (fun k _ e => e.imp id (fun e => by subst e; rfl))⟩

/-- A read log with its own blocks. -/
def RLogAt (w : World) (r most : Nat) (es : List (Int × Int)) (Ow : Nat → Prop) : Prop := ∃ v, ReadAt w r most es v ∧ ∀ q, Ow q ↔ (q = r ∨ v.ownBlock = some q)
section
variable {w w' : World} {r most : Nat} {es : List (Int × Int)} {Ow : Nat → Prop}
theorem RLogAt.kept {S : Nat → Prop} (h : RLogAt w r most es Ow) (k : Keeps S w w') (hS : ∀ q, Ow q → ¬ S q) : RLogAt w' r most es Ow := by
  obtain ⟨v, h1, h2⟩ := h
  exact ⟨v, h1.kept k (hS r ((h2 r).2 (.inl rfl))) (fun g hg => hS g ((h2 g).2 (.inr hg))), h2⟩
theorem RLogAt.lt (h : RLogAt w r most es Ow) {q : Nat} (hq : Ow q) : q < w.heap.size := by
  obtain ⟨v, h1, h2⟩ := h
  rcases (h2 q).1 hq with rfl | e
  · exact lt_of_block h1.box
  · exact h1.ents.lt e
end
theorem rlog_new (most : Nat) (hm : most ≤ 1048576) (w : World) :
    Calls Tryd.prog 46 #[.int .i64 most] w fun e w' => ∃ r, e = .returned (.tuple #[.pointer (some ⟨r, 0, none⟩), .int .i64 0]) ∧ (∃ Ow, RLogAt w' r most [] Ow ∧ ∀ q, Ow q → w.heap.size ≤ q) ∧ Keeps (fun _ => False) w w' := by
  refine (reads_new most hm w).mono ?_
  rintro e w' ⟨rfl, h1, h2⟩
  refine ⟨_, rfl, ⟨_, ⟨_, h1, fun q => Iff.rfl⟩, ?_⟩, h2⟩
  rintro q (rfl | e)
  · exact Nat.le_refl _
  · simp [Value.ownBlock] at e
theorem rlog_add (r most : Nat) (es : List (Int × Int)) (Ow : Nat → Prop) (a x : Int) (w : World) (h : RLogAt w r most es Ow) (hm : es.length < most) :
    Calls Tryd.prog 48 #[.pointer (some ⟨r, 0, none⟩), .int .u64 a, .int .u64 x] w fun e w' => e = .returned (.int .i64 0) ∧ (∃ Ow', RLogAt w' r most (es ++ [(a, x)]) Ow' ∧ ∀ q, Ow' q → Ow q ∨ w.heap.size ≤ q) ∧ Keeps Ow w w' := by
  obtain ⟨v, h1, h2⟩ := h
  refine (reads_add r most es v a x w h1 hm).mono ?_
  rintro e w' ⟨rfl, v', h3, h4⟩
  obtain ⟨h5, h6⟩ := h4.own
  refine ⟨rfl, ⟨_, ⟨v', h3, fun q => Iff.rfl⟩, ?_⟩, h6.mono (fun q _ e => (h2 q).2 e)⟩
  rintro q (e | e)
  · exact .inl ((h2 q).2 (.inl e))
  · exact (h5 q e).imp (fun e => (h2 q).2 (.inr e)) id
theorem rlog_add_full (r most : Nat) (es : List (Int × Int)) (Ow : Nat → Prop) (a x : Int) (w : World) (h : RLogAt w r most es Ow) (hm : most ≤ es.length) :
    Calls Tryd.prog 48 #[.pointer (some ⟨r, 0, none⟩), .int .u64 a, .int .u64 x] w fun e w' => e = .returned (.int .i64 5) ∧ Like w' w := by
  obtain ⟨v, h1, h2⟩ := h
  exact reads_add_full r most es v a x w h1 hm
theorem rlog_len (r most : Nat) (es : List (Int × Int)) (Ow : Nat → Prop) (w : World) (h : RLogAt w r most es Ow) : Calls Tryd.prog 34 #[.pointer (some ⟨r, 0, none⟩)] w fun e w' => e = .returned (.int .i64 es.length) ∧ w' = w := by
  obtain ⟨v, h1, h2⟩ := h
  exact reads_len r most es v w h1

/-- Both logs of the examples, new and apart. -/
structure Ex (w W : World) (a b : Nat) (es L : List (Int × Int)) (Oa Ob : Nat → Prop) : Prop where
  ra : RLogAt W a 2 es Oa
  rb : LogAt W b 2 L Ob
  na : ∀ q, Oa q → w.heap.size ≤ q
  nb : ∀ q, Ob q → w.heap.size ≤ q
  ap : ∀ q, Oa q → ¬ Ob q
  kp : Keeps (fun _ => False) w W
theorem Ex.stepA {w W W' : World} {a b : Nat} {es es' L : List (Int × Int)} {Oa Oa' Ob : Nat → Prop} (h : Ex w W a b es L Oa Ob) (h1 : RLogAt W' a 2 es' Oa') (h2 : ∀ q, Oa' q → Oa q ∨ W.heap.size ≤ q) (h3 : Keeps Oa W W') : Ex w W' a b es' L Oa' Ob :=
  ⟨h1, h.rb.kept h3 (fun q hq e => h.ap q e hq), fun q hq => by rcases h2 q hq with e | e; exact h.na q e; exact Nat.le_trans h.kp.size e, h.nb,
    fun q hq e => by rcases h2 q hq with e1 | e1; exact h.ap q e1 e; have := h.rb.lt e; omega, h.kp.step h3 (fun q hq e => by have := h.na q e; omega)⟩
theorem Ex.stepB {w W W' : World} {a b : Nat} {es L L' : List (Int × Int)} {Oa Ob Ob' : Nat → Prop} (h : Ex w W a b es L Oa Ob) (h1 : LogAt W' b 2 L' Ob') (h2 : ∀ q, Ob' q → Ob q ∨ W.heap.size ≤ q) (h3 : Keeps Ob W W') : Ex w W' a b es L' Oa Ob' :=
  ⟨h.ra.kept h3 (fun q hq e => h.ap q hq e), h1, h.na, fun q hq => by rcases h2 q hq with e | e; exact h.nb q e; exact Nat.le_trans h.kp.size e,
    fun q hq e => by rcases h2 q e with e1 | e1; exact h.ap q hq e1; have := h.ra.lt hq; omega, h.kp.step h3 (fun q hq e => by have := h.nb q e; omega)⟩
theorem Ex.like {w W W' : World} {a b : Nat} {es L : List (Int × Int)} {Oa Ob : Nat → Prop} (h : Ex w W a b es L Oa Ob) (l : Like W' W) : Ex w W' a b es L Oa Ob :=
  ⟨h.ra.kept (l.keeps (Keeps.refl (fun _ => False) _)) (fun _ _ f => f), h.rb.like l, h.na, h.nb, h.ap, l.keeps h.kp⟩

theorem nf1 : ¬ Full 2 [] 5 := fun h => absurd h.2 (by decide)
theorem nf2 : ¬ Full 2 ([] ++ [(5, 1)]) 6 := fun h => absurd h.2 (by decide)
theorem nf3 : ¬ Full 2 ([] ++ [(5, 1)] ++ [(6, 2)]) 5 := fun h => absurd h.1 (by decide)
theorem yf4 : Full 2 ([] ++ [(5, 1)] ++ [(6, 2)] ++ [(5, 3)]) 7 := ⟨by decide, by decide⟩
theorem got5 : (if idxE (redoE ([] ++ [(5, 1)] ++ [(6, 2)] ++ [(5, 3)])) 5 < (redoE ([] ++ [(5, 1)] ++ [(6, 2)] ++ [(5, 3)])).length then wordE (redoE ([] ++ [(5, 1)] ++ [(6, 2)] ++ [(5, 3)])) 5 else 0) = 3 := by decide
theorem got5b : decide (idxE (redoE ([] ++ [(5, 1)] ++ [(6, 2)] ++ [(5, 3)])) 5 < (redoE ([] ++ [(5, 1)] ++ [(6, 2)] ++ [(5, 3)])).length) = true := by decide
theorem len5 : (redoE ([] ++ [(5, 1)] ++ [(6, 2)] ++ [(5, 3)])).length = 2 := by decide

end Go.Proofs.YtmhinalgjfiliaaDoor
