
/- What has been read of a text, as it lies in memory; a label more. No statement of the seat is proved here. -/
import Derived.Test.YtkkmkfldldglgaaGreatDoorAIr
namespace Go.Proofs.YtkkmkfldldglgaaGreatDoor
open Go.RowKit Go.Shelf

/-- One more behind a row of the call's own, that stands in a new block. -/
theorem own_push1 {P : Program} (w : World) (base : Nat) (t ty e : TypeId) (z : Value) (size bytes : Nat) (ht : P.underlying t = some (.slice e)) (hinfo : (P.info? e).map (fun i => (i.zero, i.size, i.bytes)) = some (some z, size, bytes)) (hzs : z.cells.size = size) (hsz : 0 < size)
    (v : Value) (n : Nat) (xs : List Value) (hown : w.ownsRow base e size v n xs) (cs : List Value) (hcs : cs.length = size) (h1 : ∀ u ∈ cs, u.oneCell' = true) (hbytes : (n + 1) * bytes ≤ 140737488355328) (hb1 : 0 < bytes) (hbase : base ≤ w.heap.size) :
    ∃ v' w', (Builtin.append_ #[t, t] ty #[v, .slice (some ⟨w.heap.size, 0, none⟩) 1 1]).run P (w.alloc (.cells cs.toArray e)) = .ok v' w' ∧ w'.ownsRow base e size v' (n + 1) (xs ++ cs) ∧ Grew w w' v v' := by
  have k0 := (Keeps.refl (fun _ => False) w).alloc (.cells cs.toArray e)
  have b0 := (MapKept.heap_alloc w (.cells cs.toArray e)).1
  obtain ⟨v', w', r1, r2, r3, r4⟩ := own_push (P := P) (w.alloc (.cells cs.toArray e)) base t ty e z size bytes ht hinfo hzs hsz v n xs (own_keeps hown k0 (fun _ _ f => f)) ⟨w.heap.size, 0, none⟩ 1 1 cs (by omega) (fun j u hj => by
    rw [addr_add, Nat.zero_add, cell_of_block b0]
    simpa using hj) h1 hbytes hb1 (by simp; omega)
  exact ⟨v', w', r1, r2, Grew.ahead k0 ⟨(Keeps.refl _ _).grown r3 fun k hk => .inr hk, r4⟩⟩

theorem info_lab : (Tryz.prog.info? 39).map (fun i => (i.zero, i.size, i.bytes)) = some (some (.agg #[.string ByteArray.empty, .int .i64 0]), 2, 24) := by kernel_rfl
theorem info_use : (Tryz.prog.info? 125).map (fun i => (i.zero, i.size, i.bytes)) = some (some (.agg #[.string ByteArray.empty, .int .i64 0, .int .i64 0]), 3, 32) := by kernel_rfl
def labV (L : List (List UInt8 × Nat)) : List Value := L.flatMap fun p => [keyV p.1, .int .i64 (p.2 : Int)]
def useV (L : List (List UInt8 × Nat × Nat)) : List Value := L.flatMap fun p => [keyV p.1, .int .i64 (p.2.1 : Int), .int .i64 (p.2.2 : Int)]

/-- What the record of what was read is made of. -/
structure RdIs (w : World) (base p m : Nat) (vc vl vu : Value) (tag : Nat → Nat) (r : Rd) : Prop where
  box : w.heap[p]? = some (.cells #[vc, vl, .map (some m), vu] 73 (0, 0))
  code : Irs w base vc r.code
  labs : w.ownsRow base 39 2 vl r.labs.length (labV r.labs)
  uses : w.ownsRow base 125 3 vu r.uses.length (useV r.uses)
  map : MpAt w m r.labs
  tp : tag p = 0
  tm : tag m = 1
  tc : ∀ g, vc.ownBlock = some g → tag g = 2
  tl : ∀ g, vl.ownBlock = some g → tag g = 3
  tu : ∀ g, vu.ownBlock = some g → tag g = 4
  wf : ∀ i ∈ r.code, i.wf
  bp : base ≤ p
  bm : base ≤ m
  pm : m + 1 = p
/-- The blocks of it. -/
def ROwn (p m : Nat) (vc vl vu : Value) (k : Nat) : Prop := k = p ∨ k = m ∨ vc.ownBlock = some k ∨ vl.ownBlock = some k ∨ vu.ownBlock = some k
/-- The record, all of whose blocks are in S. -/
def RdAt (w : World) (S : Nat → Prop) (base p : Nat) (r : Rd) : Prop := ∃ m vc vl vu tag, RdIs w base p m vc vl vu tag r ∧ ∀ k, ROwn p m vc vl vu k → S k
theorem RdIs.keeps {w w' : World} {T : Nat → Prop} {base p m : Nat} {vc vl vu : Value} {tag : Nat → Nat} {r : Rd} (h : RdIs w base p m vc vl vu tag r) (k : Keeps T w w') (hT : ∀ q, ROwn p m vc vl vu q → ¬ T q) : RdIs w' base p m vc vl vu tag r :=
  ⟨(k.block p (lt_of_block h.box) (hT p (.inl rfl))).trans h.box, h.code.keeps k (fun g hg => hT g (.inr (.inr (.inl hg)))), own_keeps h.labs k (fun g hg => hT g (.inr (.inr (.inr (.inl hg))))), own_keeps h.uses k (fun g hg => hT g (.inr (.inr (.inr (.inr hg))))),
    h.map.keeps k (hT m (.inr (.inl rfl))), h.tp, h.tm, h.tc, h.tl, h.tu, h.wf, h.bp, h.bm, h.pm⟩
theorem RdAt.keeps {w w' : World} {S T : Nat → Prop} {base p : Nat} {r : Rd} (h : RdAt w S base p r) (k : Keeps T w w') (hT : ∀ q, S q → ¬ T q) : RdAt w' S base p r := by
  obtain ⟨m, vc, vl, vu, tag, h1, h2⟩ := h
  exact ⟨m, vc, vl, vu, tag, h1.keeps k (fun q hq => hT q (h2 q hq)), h2⟩
theorem RdAt.mono {w : World} {S T : Nat → Prop} {base p : Nat} {r : Rd} (h : RdAt w S base p r) (hT : ∀ q, S q → T q) : RdAt w T base p r := by
  obtain ⟨m, vc, vl, vu, tag, h1, h2⟩ := h
  exact ⟨m, vc, vl, vu, tag, h1, fun q hq => hT q (h2 q hq)⟩
theorem ownBlock_lt {w : World} {base size : Nat} {e : TypeId} {v : Value} {n : Nat} {xs : List Value} (h : w.ownsRow base e size v n xs) {g : Nat} (hg : v.ownBlock = some g) : g < w.heap.size := (own_block h hg).1

/-- The labels' row has grown, and is laid into the record. -/
theorem RdIs.label {w w1 w2 : World} {base p m : Nat} {vc vl vu v' : Value} {tag : Nat → Nat} {r : Rd} {x : List UInt8} (h : RdIs w base p m vc vl vu tag r) (hm : MpAt w1 m (r.labs ++ [(x, r.code.length)])) (k1 : Keeps (fun k => k = m) w w1)
    (hrow : w2.ownsRow base 39 2 v' (r.labs.length + 1) (labV r.labs ++ [keyV x, .int .i64 (r.code.length : Int)])) (hg : Grew w1 w2 vl v') :
    ∃ tag', RdIs (w2.setCell ⟨p, 1, none⟩ v') base p m vc v' vu tag' { r with labs := r.labs ++ [(x, r.code.length)] } ∧ (∀ k, ROwn p m vc v' vu k → ROwn p m vc vl vu k ∨ w.heap.size ≤ k) ∧ Keeps (ROwn p m vc vl vu) w (w2.setCell ⟨p, 1, none⟩ v') := by
  have hp := lt_of_block h.box
  obtain ⟨es, cl, hmb, _⟩ := h.map.ex
  have hml := lt_of_block hmb
  have n1 : vl.ownBlock ≠ some p := fun e => by have := h.tl p e; rw [h.tp] at this; cases this
  have n2 : vl.ownBlock ≠ some m := fun e => by have := h.tl m e; rw [h.tm] at this; cases this
  have npm : p ≠ m := fun e => by have := h.tp; rw [e, h.tm] at this; cases this
  have k2 := hg.keeps
  have kk : Keeps (fun k => k = m ∨ vl.ownBlock = some k) w w2 := (k1.mono (fun k _ e => .inl e)).trans (k2.mono (fun k _ e => .inr e))
  have ks : Keeps (fun k => k = p) w2 (w2.setCell ⟨p, 1, none⟩ v') := (Keeps.refl (fun k => k = p) w2).setCell (p := ⟨p, 1, none⟩) (.inr rfl) v'
  have hv'p : v'.ownBlock ≠ some p := fun e => by
    rcases hg.own with q | q
    · exact n1 (q ▸ e)
    · have := q p e; have := k1.size; omega
  have hb2 : w2.heap[p]? = some (.cells #[vc, vl, .map (some m), vu] 73 (0, 0)) := (kk.block p hp (fun e => e.elim npm n1)).trans h.box
  have hm2 : MpAt w2 m (r.labs ++ [(x, r.code.length)]) := hm.keeps k2 n2
  have hnew : ∀ g, v'.ownBlock = some g → vl.ownBlock = some g ∨ w.heap.size ≤ g := fun g e => by
    rcases hg.own with q | q
    · exact .inl (q ▸ e)
    · have := q g e; have := k1.size; exact .inr (by omega)
  have hc1 : Irs w2 base vc r.code := h.code.keeps kk (fun g e => fun f => by
    rcases f with rfl | f
    · have := h.tc _ e; rw [h.tm] at this; cases this
    · have a := h.tc _ e; rw [h.tl _ f] at a; cases a)
  have hu1 : w2.ownsRow base 125 3 vu r.uses.length (useV r.uses) := own_keeps h.uses kk (fun g e => fun f => by
    rcases f with rfl | f
    · have := h.tu _ e; rw [h.tm] at this; cases this
    · have a := h.tu _ e; rw [h.tl _ f] at a; cases a)
  refine ⟨fun k => if w.heap.size ≤ k then 3 else tag k, ⟨?_, ?_, ?_, ?_, ?_, ?_, ?_, ?_, ?_, ?_, h.wf, h.bp, h.bm, h.pm⟩, ?_, ?_⟩
  · have := block_set hb2 1 v'
    exact this
  · exact hc1.keeps ks (fun g e f => by subst f; have := h.tc _ e; rw [h.tp] at this; cases this)
  · have := own_keeps hrow ks (fun g e f => by subst f; exact hv'p e)
    simpa [labV] using this
  · exact own_keeps hu1 ks (fun g e f => by subst f; have := h.tu _ e; rw [h.tp] at this; cases this)
  · exact hm2.keeps ks (fun e => npm e.symm)
  · rw [if_neg (by omega)]; exact h.tp
  · rw [if_neg (by omega)]; exact h.tm
  · intro g e
    have := ownBlock_lt h.code.own e
    rw [if_neg (by omega)]; exact h.tc g e
  · intro g e
    split
    · rfl
    · rcases hnew g e with q | q
      · exact h.tl g q
      · omega
  · intro g e
    have := ownBlock_lt h.uses e
    rw [if_neg (by omega)]; exact h.tu g e
  · intro k hk
    rcases hk with e | e | e | e | e
    · exact .inl (.inl e)
    · exact .inl (.inr (.inl e))
    · exact .inl (.inr (.inr (.inl e)))
    · rcases hnew k e with q | q
      · exact .inl (.inr (.inr (.inr (.inl q))))
      · exact .inr q
    · exact .inl (.inr (.inr (.inr (.inr e))))
  · exact (kk.mono (fun k _ e => by
      rcases e with e | e
      · exact .inr (.inl e)
      · exact .inr (.inr (.inr (.inl e))))).trans (ks.mono (fun k _ e => .inl e))
end Go.Proofs.YtkkmkfldldglgaaGreatDoor
