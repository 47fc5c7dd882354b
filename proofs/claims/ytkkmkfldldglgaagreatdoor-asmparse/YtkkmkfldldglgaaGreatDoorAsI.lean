
/- The record with a use more, with an instruction more. No statement of the seat is proved here. -/
import Derived.Test.YtkkmkfldldglgaaGreatDoorAsG
namespace Go.Proofs.YtkkmkfldldglgaaGreatDoor
open Go.RowKit Go.Shelf

/-- A row of the record has grown, and is laid into it. -/
theorem RdIs.use {w w1 w2 : World} {base p m : Nat} {vc vl vu v' : Value} {tag : Nat → Nat} {r : Rd} {u : List UInt8 × Nat × Nat} (h : RdIs w base p m vc vl vu tag r) (k1 : Keeps (fun _ => False) w w1)
    (hrow : w2.ownsRow base 125 3 v' (r.uses.length + 1) (useV r.uses ++ [keyV u.1, .int .i64 (u.2.1 : Int), .int .i64 (u.2.2 : Int)])) (hg : Grew w1 w2 vu v') :
    ∃ tag', RdIs (w2.setCell ⟨p, 3, none⟩ v') base p m vc vl v' tag' { r with uses := r.uses ++ [u] } ∧ (∀ k, ROwn p m vc vl v' k → ROwn p m vc vl vu k ∨ w.heap.size ≤ k) ∧ Keeps (ROwn p m vc vl vu) w (w2.setCell ⟨p, 3, none⟩ v') := by
  have hp := lt_of_block h.box
  obtain ⟨es, cl, hmb, _⟩ := h.map.ex
  have hml := lt_of_block hmb
  have n1 : vu.ownBlock ≠ some p := fun e => by have := h.tu p e; rw [h.tp] at this; cases this
  have n2 : vu.ownBlock ≠ some m := fun e => by have := h.tu m e; rw [h.tm] at this; cases this
  have npm : p ≠ m := fun e => by have := h.tp; rw [e, h.tm] at this; cases this
  have k2 := hg.keeps
  have kk : Keeps (fun k => vu.ownBlock = some k) w w2 := (k1.mono (fun k _ e => e.elim)).trans k2
  have ks : Keeps (fun k => k = p) w2 (w2.setCell ⟨p, 3, none⟩ v') := (Keeps.refl (fun k => k = p) w2).setCell (p := ⟨p, 3, none⟩) (.inr rfl) v'
  have hv'p : v'.ownBlock ≠ some p := fun e => by
    rcases hg.own with q | q
    · exact n1 (q ▸ e)
    · have := q p e; have := k1.size; omega
  have hb2 : w2.heap[p]? = some (.cells #[vc, vl, .map (some m), vu] 73 (0, 0)) := (kk.block p hp n1).trans h.box
  have hm2 : MpAt w2 m r.labs := h.map.keeps kk n2
  have hnew : ∀ g, v'.ownBlock = some g → vu.ownBlock = some g ∨ w.heap.size ≤ g := fun g e => by
    rcases hg.own with q | q
    · exact .inl (q ▸ e)
    · have := q g e; have := k1.size; exact .inr (by omega)
  have hcode : Irs w2 base vc r.code := h.code.keeps kk (fun g e f => by have a := h.tc _ e; rw [h.tu _ f] at a; cases a)
  have hlabs : w2.ownsRow base 39 2 vl r.labs.length (labV r.labs) := own_keeps h.labs kk (fun g e f => by have a := h.tl _ e; rw [h.tu _ f] at a; cases a)
  refine ⟨fun k => if w.heap.size ≤ k then 4 else tag k, ⟨?_, ?_, ?_, ?_, ?_, ?_, ?_, ?_, ?_, ?_, h.wf, h.bp, h.bm, h.pm⟩, ?_, ?_⟩
  · have := block_set hb2 3 v'
    exact this
  · exact hcode.keeps ks (fun g e f => by subst f; have := h.tc _ e; rw [h.tp] at this; cases this)
  · exact own_keeps hlabs ks (fun g e f => by subst f; have := h.tl _ e; rw [h.tp] at this; cases this)
  · have := own_keeps hrow ks (fun g e f => by subst f; exact hv'p e)
    simpa [useV] using this
  · exact hm2.keeps ks (fun e => npm e.symm)
  · rw [if_neg (by omega)]; exact h.tp
  · rw [if_neg (by omega)]; exact h.tm
  · intro g e
    have := ownBlock_lt h.code.own e
    rw [if_neg (by omega)]; exact h.tc g e
  · intro g e
    have := ownBlock_lt h.labs e
    rw [if_neg (by omega)]; exact h.tl g e
  · intro g e
    split
    · rfl
    · rcases hnew g e with q | q
      · exact h.tu g q
      · omega
  · intro k hk
    rcases hk with e | e | e | e | e
    · exact .inl (.inl e)
    · exact .inl (.inr (.inl e))
    · exact .inl (.inr (.inr (.inl e)))
    · exact .inl (.inr (.inr (.inr (.inl e))))
    · rcases hnew k e with q | q
      · exact .inl (.inr (.inr (.inr (.inr q))))
      · exact .inr q
  · exact (kk.mono (fun k _ e => .inr (.inr (.inr (.inr e))))).trans (ks.mono (fun k _ e => .inl e))
/-- A row of the record has grown, and is laid into it. -/
theorem RdIs.ins {w w1 w2 : World} {base p m : Nat} {vc vl vu v' : Value} {tag : Nat → Nat} {r : Rd} {i : I5} (hi : i.wf) (h : RdIs w base p m vc vl vu tag r) (k1 : Keeps (fun _ => False) w w1)
    (hrow : Irs w2 base v' (r.code ++ [i])) (hg : Grew w1 w2 vc v') :
    ∃ tag', RdIs (w2.setCell ⟨p, 0, none⟩ v') base p m v' vl vu tag' { r with code := r.code ++ [i] } ∧ (∀ k, ROwn p m v' vl vu k → ROwn p m vc vl vu k ∨ w.heap.size ≤ k) ∧ Keeps (ROwn p m vc vl vu) w (w2.setCell ⟨p, 0, none⟩ v') := by
  have hp := lt_of_block h.box
  obtain ⟨es, cl, hmb, _⟩ := h.map.ex
  have hml := lt_of_block hmb
  have n1 : vc.ownBlock ≠ some p := fun e => by have := h.tc p e; rw [h.tp] at this; cases this
  have n2 : vc.ownBlock ≠ some m := fun e => by have := h.tc m e; rw [h.tm] at this; cases this
  have npm : p ≠ m := fun e => by have := h.tp; rw [e, h.tm] at this; cases this
  have k2 := hg.keeps
  have kk : Keeps (fun k => vc.ownBlock = some k) w w2 := (k1.mono (fun k _ e => e.elim)).trans k2
  have ks : Keeps (fun k => k = p) w2 (w2.setCell ⟨p, 0, none⟩ v') := (Keeps.refl (fun k => k = p) w2).setCell (p := ⟨p, 0, none⟩) (.inr rfl) v'
  have hv'p : v'.ownBlock ≠ some p := fun e => by
    rcases hg.own with q | q
    · exact n1 (q ▸ e)
    · have := q p e; have := k1.size; omega
  have hb2 : w2.heap[p]? = some (.cells #[vc, vl, .map (some m), vu] 73 (0, 0)) := (kk.block p hp n1).trans h.box
  have hm2 : MpAt w2 m r.labs := h.map.keeps kk n2
  have hnew : ∀ g, v'.ownBlock = some g → vc.ownBlock = some g ∨ w.heap.size ≤ g := fun g e => by
    rcases hg.own with q | q
    · exact .inl (q ▸ e)
    · have := q g e; have := k1.size; exact .inr (by omega)
  have hlabs : w2.ownsRow base 39 2 vl r.labs.length (labV r.labs) := own_keeps h.labs kk (fun g e f => by have a := h.tl _ e; rw [h.tc _ f] at a; cases a)
  have huses : w2.ownsRow base 125 3 vu r.uses.length (useV r.uses) := own_keeps h.uses kk (fun g e f => by have a := h.tu _ e; rw [h.tc _ f] at a; cases a)
  refine ⟨fun k => if w.heap.size ≤ k then 2 else tag k, ⟨?_, ?_, ?_, ?_, ?_, ?_, ?_, ?_, ?_, ?_, fun x hx => (List.mem_append.1 hx).elim (h.wf x) (fun e => by simp only [List.mem_singleton] at e; subst e; exact hi), h.bp, h.bm, h.pm⟩, ?_, ?_⟩
  · have := block_set hb2 0 v'
    exact this
  · exact hrow.keeps ks (fun g e f => by subst f; exact hv'p e)
  · exact own_keeps hlabs ks (fun g e f => by subst f; have := h.tl _ e; rw [h.tp] at this; cases this)
  · exact own_keeps huses ks (fun g e f => by subst f; have := h.tu _ e; rw [h.tp] at this; cases this)
  · exact hm2.keeps ks (fun e => npm e.symm)
  · rw [if_neg (by omega)]; exact h.tp
  · rw [if_neg (by omega)]; exact h.tm
  · intro g e
    split
    · rfl
    · rcases hnew g e with q | q
      · exact h.tc g q
      · omega
  · intro g e
    have := ownBlock_lt h.labs e
    rw [if_neg (by omega)]; exact h.tl g e
  · intro g e
    have := ownBlock_lt h.uses e
    rw [if_neg (by omega)]; exact h.tu g e
  · intro k hk
    rcases hk with e | e | e | e | e
    · exact .inl (.inl e)
    · exact .inl (.inr (.inl e))
    · rcases hnew k e with q | q
      · exact .inl (.inr (.inr (.inl q)))
      · exact .inr q
    · exact .inl (.inr (.inr (.inr (.inl e))))
    · exact .inl (.inr (.inr (.inr (.inr e))))
  · exact (kk.mono (fun k _ e => .inr (.inr (.inl e)))).trans (ks.mono (fun k _ e => .inl e))
end Go.Proofs.YtkkmkfldldglgaaGreatDoor
