
/-
  The walk of the statements' small examples. No statement of the seat is proved here.
-/
import Derived.Test.YtbgnlenhncbceaaDoorReadsA
import Derived.Test.YtbgnlenhncbceaaDoorRedoG
namespace Go.Proofs.YtbgnlenhncbceaaDoor
open Go.RowKit Go.Shelf

theorem Tz.pos {w : World} (h : Tz w) : 0 < w.heap.size := World.block_lt_of_cell? _ _ (h 0 (by decide))
theorem AddKeeps.own {r : Nat} {v v' : Value} {n : Nat} {w w' : World} (h : AddKeeps r v v' n w w') : (∀ g, v'.ownBlock = some g → v.ownBlock = some g ∨ w.heap.size ≤ g) ∧ Keeps (fun k => k = r ∨ v.ownBlock = some k) w w' := by
  rcases h with ⟨g, h1, h2, h3⟩ | ⟨g, c0, rfl, _, rfl, _, h3⟩
  · refine ⟨fun q hq => ?_, h3.mono (fun k _ e => .inl e)⟩
    rw [h1] at hq
    injection hq with hq
    exact .inr (by omega)
  · exact ⟨fun q hq => .inl hq, h3.mono (fun k _ e => e.imp id (fun e => by subst e; rfl))⟩

/-- A read log with its own blocks. -/
def RLogAt (w : World) (r most : Nat) (es : List (Int × Int)) (Ow : Nat → Prop) : Prop := ∃ v, ReadAt w r most es v ∧ ∀ q, Ow q ↔ (q = r ∨ v.ownBlock = some q)
section
variable {w w' : World} {r most : Nat} {es : List (Int × Int)} {Ow : Nat → Prop}
theorem RLogAt.kept {S : Nat → Prop} (h : RLogAt w r most es Ow) (k : Keeps S w w') (hS : ∀ q, Ow q → ¬ S q) : RLogAt w' r most es Ow := by
  obtain ⟨v, h1, h2⟩ := h
  exact ⟨v, h1.kept k (hS r ((h2 r).2 (.inl rfl))) (fun g hg => hS g ((h2 g).2 (.inr hg))), h2⟩
theorem RLogAt.lt (h : RLogAt w r most es Ow) {q : Nat} (hq : Ow q) : q < w.heap.size := by
  obtain ⟨v, h1, h2⟩ := h
  rcases (h2 q).1 hq with rfl | e
  · exact lt_of_block h1.box
  · exact h1.ents.lt e
end
theorem rlog_new (most : Nat) (hm : most ≤ 1048576) (w : World) :
    Calls Tryd.prog 7 #[.int .i64 most] w fun e w' => ∃ r, e = .returned (.tuple #[.pointer (some ⟨r, 0, none⟩), .int .i64 0]) ∧ (∃ Ow, RLogAt w' r most [] Ow ∧ ∀ q, Ow q → w.heap.size ≤ q) ∧ Keeps (fun _ => False) w w' := by
  refine (reads_new most hm w).mono ?_
  rintro e w' ⟨rfl, h1, h2⟩
  refine ⟨_, rfl, ⟨_, ⟨_, h1, fun q => Iff.rfl⟩, ?_⟩, h2⟩
  rintro q (rfl | e)
  · exact Nat.le_refl _
  · simp [Value.ownBlock] at e
theorem rlog_add (r most : Nat) (es : List (Int × Int)) (Ow : Nat → Prop) (a x : Int) (w : World) (h : RLogAt w r most es Ow) (hm : es.length < most) :
    Calls Tryd.prog 28 #[.pointer (some ⟨r, 0, none⟩), .int .u64 a, .int .u64 x] w fun e w' => e = .returned (.int .i64 0) ∧ (∃ Ow', RLogAt w' r most (es ++ [(a, x)]) Ow' ∧ ∀ q, Ow' q → Ow q ∨ w.heap.size ≤ q) ∧ Keeps Ow w w' := by
  obtain ⟨v, h1, h2⟩ := h
  refine (reads_add r most es v a x w h1 hm).mono ?_
  rintro e w' ⟨rfl, v', h3, h4⟩
  obtain ⟨h5, h6⟩ := h4.own
  refine ⟨rfl, ⟨_, ⟨v', h3, fun q => Iff.rfl⟩, ?_⟩, h6.mono (fun q _ e => (h2 q).2 e)⟩
  rintro q (e | e)
  · exact .inl ((h2 q).2 (.inl e))
  · exact (h5 q e).imp (fun e => (h2 q).2 (.inr e)) id
theorem rlog_add_full (r most : Nat) (es : List (Int × Int)) (Ow : Nat → Prop) (a x : Int) (w : World) (h : RLogAt w r most es Ow) (hm : most ≤ es.length) :
    Calls Tryd.prog 28 #[.pointer (some ⟨r, 0, none⟩), .int .u64 a, .int .u64 x] w fun e w' => e = .returned (.int .i64 5) ∧ Like w' w := by
  obtain ⟨v, h1, h2⟩ := h
  exact reads_add_full r most es v a x w h1 hm
theorem rlog_len (r most : Nat) (es : List (Int × Int)) (Ow : Nat → Prop) (w : World) (h : RLogAt w r most es Ow) : Calls Tryd.prog 32 #[.pointer (some ⟨r, 0, none⟩)] w fun e w' => e = .returned (.int .i64 es.length) ∧ w' = w := by
  obtain ⟨v, h1, h2⟩ := h
  exact reads_len r most es v w h1

/-- Both logs of the examples, new and apart. -/
structure Ex (w W : World) (a b : Nat) (es L : List (Int × Int)) (Oa Ob : Nat → Prop) : Prop where
  ra : RLogAt W a 2 es Oa
  rb : LogAt W b 2 L Ob
  na : ∀ q, Oa q → w.heap.size ≤ q
  nb : ∀ q, Ob q → w.heap.size ≤ q
  ap : ∀ q, Oa q → ¬ Ob q
  kp : Keeps (fun _ => False) w W
theorem Ex.stepA {w W W' : World} {a b : Nat} {es es' L : List (Int × Int)} {Oa Oa' Ob : Nat → Prop} (h : Ex w W a b es L Oa Ob) (h1 : RLogAt W' a 2 es' Oa') (h2 : ∀ q, Oa' q → Oa q ∨ W.heap.size ≤ q) (h3 : Keeps Oa W W') : Ex w W' a b es' L Oa' Ob :=
  ⟨h1, h.rb.kept h3 (fun q hq e => h.ap q e hq), fun q hq => by rcases h2 q hq with e | e; exact h.na q e; exact Nat.le_trans h.kp.size e, h.nb,
    fun q hq e => by rcases h2 q hq with e1 | e1; exact h.ap q e1 e; have := h.rb.lt e; omega, h.kp.step h3 (fun q hq e => by have := h.na q e; omega)⟩
theorem Ex.stepB {w W W' : World} {a b : Nat} {es L L' : List (Int × Int)} {Oa Ob Ob' : Nat → Prop} (h : Ex w W a b es L Oa Ob) (h1 : LogAt W' b 2 L' Ob') (h2 : ∀ q, Ob' q → Ob q ∨ W.heap.size ≤ q) (h3 : Keeps Ob W W') : Ex w W' a b es L' Oa Ob' :=
  ⟨h.ra.kept h3 (fun q hq e => h.ap q hq e), h1, h.na, fun q hq => by rcases h2 q hq with e | e; exact h.nb q e; exact Nat.le_trans h.kp.size e,
    fun q hq e => by rcases h2 q e with e1 | e1; exact h.ap q hq e1; have := h.ra.lt hq; omega, h.kp.step h3 (fun q hq e => by have := h.nb q e; omega)⟩
theorem Ex.like {w W W' : World} {a b : Nat} {es L : List (Int × Int)} {Oa Ob : Nat → Prop} (h : Ex w W a b es L Oa Ob) (l : Like W' W) : Ex w W' a b es L Oa Ob :=
  ⟨h.ra.kept (l.keeps (Keeps.refl (fun _ => False) _)) (fun _ _ f => f), h.rb.like l, h.na, h.nb, h.ap, l.keeps h.kp⟩

theorem nf1 : ¬ Full 2 [] 5 := fun h => absurd h.2 (by decide)
theorem nf2 : ¬ Full 2 ([] ++ [(5, 1)]) 6 := fun h => absurd h.2 (by decide)
theorem nf3 : ¬ Full 2 ([] ++ [(5, 1)] ++ [(6, 2)]) 5 := fun h => absurd h.1 (by decide)
theorem yf4 : Full 2 ([] ++ [(5, 1)] ++ [(6, 2)] ++ [(5, 3)]) 7 := ⟨by decide, by decide⟩
theorem got5 : (if idxE (redoE ([] ++ [(5, 1)] ++ [(6, 2)] ++ [(5, 3)])) 5 < (redoE ([] ++ [(5, 1)] ++ [(6, 2)] ++ [(5, 3)])).length then wordE (redoE ([] ++ [(5, 1)] ++ [(6, 2)] ++ [(5, 3)])) 5 else 0) = 3 := by decide
theorem got5b : decide (idxE (redoE ([] ++ [(5, 1)] ++ [(6, 2)] ++ [(5, 3)])) 5 < (redoE ([] ++ [(5, 1)] ++ [(6, 2)] ++ [(5, 3)])).length) = true := by decide
theorem len5 : (redoE ([] ++ [(5, 1)] ++ [(6, 2)] ++ [(5, 3)])).length = 2 := by decide

set_option maxRecDepth 100000 in
set_option maxHeartbeats 1000000 in
theorem works_any (w : World) (hw : Tz w) : Calls Tryd.prog 10 #[] w fun e w' => e = .returned (.bool true) ∧ Keeps (fun _ => False) w w' := by
  have hp := hw.pos
  go_enter Tryd.func10, Tryd.ntmps10
  go_wp2_with fail
  refine (rlog_new 2 (by decide) w).mono ?_
  rintro e w1 ⟨a, rfl, ⟨Oa, hA, hOa⟩, hk1⟩
  have hs1 := hk1.size
  go_wp2_with fail
  refine (log_new 2 (by decide) w1 (by omega)).mono ?_
  rintro e w2 ⟨b, rfl, ⟨Ob, hB, hOb⟩, hk2⟩
  have hE : Ex w w2 a b [] [] Oa Ob := ⟨hA.kept hk2 (fun _ _ f => f), hB, hOa, fun q hq => Nat.le_trans hs1 (hOb q hq), fun q hq e => by have := hA.lt hq; have := hOb q e; omega, hk1.trans hk2⟩
  clear hA hB hOa hOb hk1 hk2 hs1
  go_wp2_with (go_at_call 8; refine (num_any _ _).mono ?_; rintro e w' ⟨rfl, hw'⟩; replace hw' := hw'.symm; subst hw')
  refine (rlog_add a 2 _ Oa 5 1 w2 hE.ra (by decide)).mono ?_
  rintro e w3 ⟨rfl, ⟨Oa3, h1, h2⟩, h3⟩
  replace hE := hE.stepA h1 h2 h3
  clear h1 h2 h3
  go_wp2_with fail
  refine (rlog_add a 2 _ Oa3 5 1 w3 hE.ra (by decide)).mono ?_
  rintro e w4 ⟨rfl, ⟨Oa4, h1, h2⟩, h3⟩
  replace hE := hE.stepA h1 h2 h3
  clear h1 h2 h3
  go_wp2_with fail
  refine (rlog_add_full a 2 _ Oa4 6 2 w4 hE.ra (by decide)).mono ?_
  rintro e w5 ⟨rfl, h1⟩
  replace hE := hE.like h1
  clear h1
  go_wp2_with fail
  refine (log_put b 2 _ Ob 5 1 w5 hE.rb (hw.keeps hE.kp (fun f => f)) (by decide) nf1).mono ?_
  rintro e w6 ⟨rfl, ⟨Ob6, h1, h2⟩, h3⟩
  replace hE := hE.stepB h1 h2 h3
  clear h1 h2 h3
  go_wp2_with fail
  refine (log_put b 2 _ Ob6 6 2 w6 hE.rb (hw.keeps hE.kp (fun f => f)) (by decide) nf2).mono ?_
  rintro e w7 ⟨rfl, ⟨Ob7, h1, h2⟩, h3⟩
  replace hE := hE.stepB h1 h2 h3
  clear h1 h2 h3
  go_wp2_with fail
  refine (log_put b 2 _ Ob7 5 3 w7 hE.rb (hw.keeps hE.kp (fun f => f)) (by decide) nf3).mono ?_
  rintro e w8 ⟨rfl, ⟨Ob8, h1, h2⟩, h3⟩
  replace hE := hE.stepB h1 h2 h3
  clear h1 h2 h3
  go_wp2_with fail
  refine (log_put_full b 2 _ Ob8 7 4 w8 hE.rb (hw.keeps hE.kp (fun f => f)) yf4).mono ?_
  rintro e w9 ⟨rfl, h1⟩
  replace hE := hE.like h1
  clear h1
  have hg := log_get b 2 _ Ob8 5 w9 hE.rb (hw.keeps hE.kp (fun f => f))
  rw [got5, got5b] at hg
  have hl := rlog_len a 2 _ _ w9 hE.ra
  have hm := log_mark b 2 _ _ w9 hE.rb
  have hn := log_len b 2 _ _ w9 hE.rb
  rw [len5] at hn
  simp only [List.nil_append, List.cons_append, List.length_cons, List.length_nil] at hl hm
  rw [show ((0 + 1 + 1 : Nat) : Int) = 2 from rfl] at hl
  rw [show ((0 + 1 + 1 + 1 : Nat) : Int) = 3 from rfl] at hm
  rw [show ((2 : Nat) : Int) = 2 from rfl] at hn
  have hkp := hE.kp
  clear hE hw
  go_wp2_with fail
  refine hg.mono ?_
  rintro e w' ⟨rfl, hw'⟩
  replace hw' := hw'.symm
  subst hw'
  go_wp2_with (first
    | (go_at_call 8; refine (num_any _ _).mono ?_; rintro e w' ⟨rfl, hw'⟩; replace hw' := hw'.symm; subst hw')
    | (go_at_call 32; refine hl.mono ?_; rintro e w' ⟨rfl, hw'⟩; replace hw' := hw'.symm; subst hw')
    | (go_at_call 33; refine hm.mono ?_; rintro e w' ⟨rfl, hw'⟩; replace hw' := hw'.symm; subst hw')
    | (go_at_call 35; refine hn.mono ?_; rintro e w' ⟨rfl, hw'⟩; replace hw' := hw'.symm; subst hw'))
  go_ret
  exact ⟨rfl, hkp⟩
end Go.Proofs.YtbgnlenhncbceaaDoor
