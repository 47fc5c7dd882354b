
/-
  What stands in memory while LogsWalks runs. No statement of the seat is proved here.
-/
import Derived.Test.YtbgnlenhncbceaaDoorRefM
namespace Go.Proofs.YtbgnlenhncbceaaDoor
open Go.RowKit Go.Shelf

/-- Variables in blocks of their own, a read log, a redo log, the document's log: all new and apart. -/
structure Wk (w X : World) (B : List (Nat × Obj)) (r : Nat) (er : List (Int × Int)) (q : Nat) (L : List (Int × Int)) (f : Nat) (M : List (Int × Int)) (Or Ow Of : Nat → Prop) : Prop where
  bx : ∀ b o, (b, o) ∈ B → X.heap[b]? = some o
  bc : ∀ b o, (b, o) ∈ B → o.isCells = true
  bn : ∀ b o, (b, o) ∈ B → w.heap.size ≤ b
  rl : RLogAt X r 1000000 er Or
  lg : LogAt X q 1000000 L Ow
  rf : RefOwn X f 1000000 M Of
  nr : ∀ k, Or k → w.heap.size ≤ k
  nw : ∀ k, Ow k → w.heap.size ≤ k
  nf : ∀ k, Of k → w.heap.size ≤ k
  bo : ∀ b o, (b, o) ∈ B → ¬ Or b ∧ ¬ Ow b ∧ ¬ Of b
  rw' : ∀ k, Or k → ¬ Ow k
  rf' : ∀ k, Or k → ¬ Of k
  wf' : ∀ k, Ow k → ¬ Of k
  kp : Keeps (fun _ => False) w X
section
variable {w X X' : World} {B : List (Nat × Obj)} {r q f : Nat} {er er' L L' M M' : List (Int × Int)} {Or Or' Ow Ow' Of Of' : Nat → Prop}
theorem Wk.same (h : Wk w X B r er q L f M Or Ow Of) (k : Keeps (fun _ => False) X X') : Wk w X' B r er q L f M Or Ow Of :=
  ⟨fun b o hb => k.old (h.bx b o hb) (fun f => f), h.bc, h.bn, h.rl.kept k (fun _ _ f => f), h.lg.kept k (fun _ _ f => f), h.rf.kept k (fun _ _ f => f), h.nr, h.nw, h.nf, h.bo, h.rw', h.rf', h.wf', h.kp.trans k⟩
theorem Wk.like (h : Wk w X B r er q L f M Or Ow Of) (l : Like X' X) : Wk w X' B r er q L f M Or Ow Of := h.same (l.keeps (Keeps.refl _ _))
theorem Wk.lt (h : Wk w X B r er q L f M Or Ow Of) {k : Nat} (hk : Or k ∨ Ow k ∨ Of k) : k < X.heap.size := by
  rcases hk with hk | hk | hk
  · exact h.rl.lt hk
  · exact h.lg.lt hk
  · exact h.rf.lt hk
/-- A block is watched that is nobody's. -/
theorem Wk.watch (h : Wk w X B r er q L f M Or Ow Of) {b : Nat} {o : Obj} (hb : X.heap[b]? = some o) (ho : o.isCells = true) (hn : w.heap.size ≤ b) (hno : ¬ Or b ∧ ¬ Ow b ∧ ¬ Of b) : Wk w X ((b, o) :: B) r er q L f M Or Ow Of := by
  refine ⟨fun b' o' hb' => ?_, fun b' o' hb' => ?_, fun b' o' hb' => ?_, h.rl, h.lg, h.rf, h.nr, h.nw, h.nf, fun b' o' hb' => ?_, h.rw', h.rf', h.wf', h.kp⟩
  · rcases List.mem_cons.1 hb' with e | hb'
    · cases e
      exact hb
    · exact h.bx b' o' hb'
  · rcases List.mem_cons.1 hb' with e | hb'
    · cases e
      exact ho
    · exact h.bc b' o' hb'
  · rcases List.mem_cons.1 hb' with e | hb'
    · cases e
      exact hn
    · exact h.bn b' o' hb'
  · rcases List.mem_cons.1 hb' with e | hb'
    · cases e
      exact hno
    · exact h.bo b' o' hb'
theorem Wk.box (h : Wk w X B r er q L f M Or Ow Of) (t : TypeId) (v : Value) : Wk w (X.alloc (.cells #[v] t)) ((X.heap.size, .cells #[v] t (0, 0)) :: B) r er q L f M Or Ow Of :=
  (h.same ((Keeps.refl _ X).alloc _)).watch (alloc_block X _) rfl h.kp.size ⟨fun e => by have := h.lt (.inl e); omega, fun e => by have := h.lt (.inr (.inl e)); omega, fun e => by have := h.lt (.inr (.inr e)); omega⟩
theorem Wk.blt (h : Wk w X B r er q L f M Or Ow Of) {b : Nat} {o : Obj} (hb : (b, o) ∈ B) : b < X.heap.size := lt_of_block (h.bx b o hb)
theorem Wk.stepR (h : Wk w X B r er q L f M Or Ow Of) (h1 : RLogAt X' r 1000000 er' Or') (h2 : ∀ k, Or' k → Or k ∨ X.heap.size ≤ k) (h3 : Keeps Or X X') : Wk w X' B r er' q L f M Or' Ow Of :=
  ⟨fun b o hb => h3.old (h.bx b o hb) (h.bo b o hb).1, h.bc, h.bn, h1, h.lg.kept h3 (fun k hk e => h.rw' k e hk), h.rf.kept h3 (fun k hk e => h.rf' k e hk), fun k hk => by rcases h2 k hk with e | e; exact h.nr k e; exact Nat.le_trans h.kp.size e, h.nw, h.nf,
    fun b o hb => ⟨fun e => by rcases h2 b e with e1 | e1; exact (h.bo b o hb).1 e1; have := h.blt hb; omega, (h.bo b o hb).2⟩,
    fun k hk e => by rcases h2 k hk with e1 | e1; exact h.rw' k e1 e; have := h.lg.lt e; omega, fun k hk e => by rcases h2 k hk with e1 | e1; exact h.rf' k e1 e; have := h.rf.lt e; omega, h.wf', h.kp.step h3 (fun k hk e => by have := h.nr k e; omega)⟩
theorem Wk.stepW (h : Wk w X B r er q L f M Or Ow Of) (h1 : LogAt X' q 1000000 L' Ow') (h2 : ∀ k, Ow' k → Ow k ∨ X.heap.size ≤ k) (h3 : Keeps Ow X X') : Wk w X' B r er q L' f M Or Ow' Of :=
  ⟨fun b o hb => h3.old (h.bx b o hb) (h.bo b o hb).2.1, h.bc, h.bn, h.rl.kept h3 (fun k hk e => h.rw' k hk e), h1, h.rf.kept h3 (fun k hk e => h.wf' k e hk), h.nr, fun k hk => by rcases h2 k hk with e | e; exact h.nw k e; exact Nat.le_trans h.kp.size e, h.nf,
    fun b o hb => ⟨(h.bo b o hb).1, fun e => by rcases h2 b e with e1 | e1; exact (h.bo b o hb).2.1 e1; have := h.blt hb; omega, (h.bo b o hb).2.2⟩,
    fun k hk e => by rcases h2 k e with e1 | e1; exact h.rw' k hk e1; have := h.rl.lt hk; omega, h.rf', fun k hk e => by rcases h2 k hk with e1 | e1; exact h.wf' k e1 e; have := h.rf.lt e; omega, h.kp.step h3 (fun k hk e => by have := h.nw k e; omega)⟩
theorem Wk.stepF (h : Wk w X B r er q L f M Or Ow Of) (h1 : RefOwn X' f 1000000 M' Of') (h2 : ∀ k, Of' k → Of k ∨ X.heap.size ≤ k) (h3 : Keeps Of X X') : Wk w X' B r er q L f M' Or Ow Of' :=
  ⟨fun b o hb => h3.old (h.bx b o hb) (h.bo b o hb).2.2, h.bc, h.bn, h.rl.kept h3 (fun k hk e => h.rf' k hk e), h.lg.kept h3 (fun k hk e => h.wf' k hk e), h1, h.nr, h.nw, fun k hk => by rcases h2 k hk with e | e; exact h.nf k e; exact Nat.le_trans h.kp.size e,
    fun b o hb => ⟨(h.bo b o hb).1, (h.bo b o hb).2.1, fun e => by rcases h2 b e with e1 | e1; exact (h.bo b o hb).2.2 e1; have := h.blt hb; omega⟩,
    h.rw', fun k hk e => by rcases h2 k e with e1 | e1; exact h.rf' k hk e1; have := h.rl.lt hk; omega, fun k hk e => by rcases h2 k e with e1 | e1; exact h.wf' k hk e1; have := h.lg.lt hk; omega, h.kp.step h3 (fun k hk e => by have := h.nf k e; omega)⟩
theorem Wk.grown (h : Wk w X B r er q L f M Or Ow Of) {row : Option Nat} (hg : X.grownBy X' row) (hr : ∀ k, row = some k → w.heap.size ≤ k ∧ ∃ o : Obj, X.heap[k]? = some o ∧ o.isCells = false) : Wk w X' B r er q L f M Or Ow Of := by
  have hcell : ∀ k c t fr, X.heap[k]? = some (.cells c t fr) → row ≠ some k := fun k c t fr hk e => by
    obtain ⟨_, o, h1, h2⟩ := hr k e
    rw [hk] at h1
    cases h1
    cases h2
  have hno : ∀ k, (Or k ∨ Ow k ∨ Of k) → ¬ row = some k := fun k hk => by
    rcases hk with hk | hk | hk
    · obtain ⟨v, h1, h2⟩ := h.rl
      rcases (h2 k).1 hk with rfl | e
      · exact hcell _ _ _ _ h1.box
      · obtain ⟨c, hc⟩ := h1.ents.kind e
        exact hcell _ _ _ _ hc
    · obtain ⟨c, t, fr, hc⟩ := h.lg.cells hk
      exact hcell _ _ _ _ hc
    · obtain ⟨c, t, fr, hc⟩ := h.rf.cells hk
      exact hcell _ _ _ _ hc
  have hk := keeps_grown hg
  have hbx : ∀ b o, (b, o) ∈ B → row ≠ some b := fun b o hb e => by
    obtain ⟨_, o', h1, h2⟩ := hr b e
    rw [h.bx b o hb] at h1
    cases h1
    rw [h.bc b o hb] at h2
    cases h2
  exact ⟨fun b o hb => hk.old (h.bx b o hb) (hbx b o hb), h.bc, h.bn, h.rl.kept hk (fun k e => hno k (.inl e)), h.lg.kept hk (fun k e => hno k (.inr (.inl e))), h.rf.kept hk (fun k e => hno k (.inr (.inr e))), h.nr, h.nw, h.nf, h.bo, h.rw', h.rf', h.wf', h.kp.step hk (fun k _ e => by have := (hr k e).1; omega)⟩
/-- A variable's cell. -/
theorem Wk.cell (h : Wk w X B r er q L f M Or Ow Of) {b : Nat} {t : TypeId} {v : Value} (hb : (b, Obj.cells #[v] t (0, 0)) ∈ B) : X.cell? ⟨b, 0, none⟩ = some v := cell_of_block (h.bx b _ hb) 0
theorem Wk.put (h : Wk w X B r er q L f M Or Ow Of) (hw : Tz w) (hL : L.length < 1000000) (x y : Int) (W0 : World) (hl : Like W0 X) :
    Calls Tryd.prog 29 #[.pointer (some ⟨q, 0, none⟩), .int .u64 x, .int .u64 y] W0 fun e w4 => e = .returned (.int .i64 0) ∧ ∃ Ow', Wk w w4 B r er q (L ++ [(x, y)]) f M Or Ow' Of ∧ Keeps Ow W0 w4 ∧ ∀ k, Ow' k → Ow k ∨ W0.heap.size ≤ k := by
  have h0 := h.like hl
  refine (log_put q 1000000 L Ow x y W0 h0.lg (hw.keeps h0.kp (fun f => f)) (by omega) (fun hf => by have := redoE_length L; have := hf.2; omega)).mono ?_
  rintro e w4 ⟨rfl, ⟨Ow', h1, h2⟩, h3⟩
  exact ⟨rfl, Ow', h0.stepW h1 h2 h3, h3, h2⟩
theorem Wk.fput (h : Wk w X B r er q L f M Or Ow Of) (hL : M.length < 1000000) (x y : Int) (W0 : World) (hl : Like W0 X) :
    Calls Tryd.prog 30 #[.pointer (some ⟨f, 0, none⟩), .int .u64 x, .int .u64 y] W0 fun e w4 => e = .returned (.int .i64 0) ∧ ∃ Of', Wk w w4 B r er q L f (M ++ [(x, y)]) Or Ow Of' ∧ Keeps Of W0 w4 ∧ ∀ k, Of' k → Of k ∨ W0.heap.size ≤ k := by
  have h0 := h.like hl
  refine (refo_put f 1000000 M Of x y W0 h0.rf (by omega) (fun hf => by have := redoE_length M; have := hf.2; omega)).mono ?_
  rintro e w4 ⟨rfl, ⟨Of', h1, h2⟩, h3⟩
  exact ⟨rfl, Of', h0.stepF h1 h2 h3, h3, h2⟩
theorem Wk.add (h : Wk w X B r er q L f M Or Ow Of) (hL : er.length < 1000000) (x y : Int) (W0 : World) (hl : Like W0 X) :
    Calls Tryd.prog 28 #[.pointer (some ⟨r, 0, none⟩), .int .u64 x, .int .u64 y] W0 fun e w4 => e = .returned (.int .i64 0) ∧ ∃ Or', Wk w w4 B r (er ++ [(x, y)]) q L f M Or' Ow Of := by
  have h0 := h.like hl
  refine (rlog_add r 1000000 er Or x y W0 h0.rl hL).mono ?_
  rintro e w4 ⟨rfl, ⟨Or', h1, h2⟩, h3⟩
  exact ⟨rfl, Or', h0.stepR h1 h2 h3⟩
end

end Go.Proofs.YtbgnlenhncbceaaDoor
