
/-
  A redo log by the Puts that it has taken; each call on it. No statement of the seat is proved here.
-/
import Derived.Test.YtbgnlenhncbceaaDoorRedoF
import Derived.Laws.ResultCell
namespace Go.Proofs.YtbgnlenhncbceaaDoor
open Go.RowKit Go.Shelf

/-- A redo log that has taken these Puts, with its own blocks. -/
def LogAt (w : World) (r most : Nat) (L : List (Int × Int)) (Ow : Nat → Prop) : Prop :=
  ∃ v1 v2 bt p K vf Ot, RedoAt w r most (redoE L) (redoU L) v1 v2 bt p K vf Ot ∧ ∀ q, Ow q ↔ ROwn r v1 v2 Ot q

section
variable {w w' : World} {r most : Nat} {L : List (Int × Int)} {Ow : Nat → Prop}
theorem LogAt.kept {S : Nat → Prop} (h : LogAt w r most L Ow) (k : Keeps S w w') (hS : ∀ q, Ow q → ¬ S q) : LogAt w' r most L Ow := by
  obtain ⟨v1, v2, bt, p, K, vf, Ot, h1, h2⟩ := h
  exact ⟨v1, v2, bt, p, K, vf, Ot, h1.kept k (fun q hq => hS q ((h2 q).2 hq)), h2⟩
theorem LogAt.like {a : World} (h : LogAt w r most L Ow) (l : Like a w) : LogAt a r most L Ow :=
  h.kept (S := fun _ => False) (l.keeps (Keeps.refl _ _)) (fun _ _ f => f)
theorem LogAt.lt (h : LogAt w r most L Ow) {q : Nat} (hq : Ow q) : q < w.heap.size := by
  obtain ⟨v1, v2, bt, p, K, vf, Ot, h1, h2⟩ := h
  exact h1.lt ((h2 q).1 hq)
theorem LogAt.cells (h : LogAt w r most L Ow) {q : Nat} (hq : Ow q) : ∃ c t fr, w.heap[q]? = some (.cells c t fr) := by
  obtain ⟨v1, v2, bt, p, K, vf, Ot, h1, h2⟩ := h
  exact h1.cells ((h2 q).1 hq)
theorem LogAt.grown (h : LogAt w r most L Ow) {row : Option Nat} (hg : w.grownBy w' row) (hr : ∀ r, row = some r → ∃ o : Obj, w.heap[r]? = some o ∧ o.isCells = false) : LogAt w' r most L Ow := by
  obtain ⟨v1, v2, bt, p, K, vf, Ot, h1, h2⟩ := h
  exact ⟨v1, v2, bt, p, K, vf, Ot, h1.grown hg hr, h2⟩
theorem LogAt.fit (h : LogAt w r most L Ow) : (redoE L).length ≤ 1048576 := by
  obtain ⟨v1, v2, bt, p, K, vf, Ot, h1, h2⟩ := h
  exact Nat.le_trans h1.fit h1.most20
theorem LogAt.many (h : LogAt w r most L Ow) : L.length ≤ 4398046511104 := by
  obtain ⟨v1, v2, bt, p, K, vf, Ot, h1, h2⟩ := h
  have := h1.many
  rwa [redoU_length] at this
end

theorem log_new (most : Nat) (hm : most ≤ 1048576) (w : World) (h0 : 0 < w.heap.size) :
    Calls Tryd.prog 16 #[.int .i64 most] w fun e w' => ∃ r, e = .returned (.tuple #[.pointer (some ⟨r, 0, none⟩), .int .i64 0]) ∧ (∃ Ow, LogAt w' r most [] Ow ∧ ∀ q, Ow q → w.heap.size ≤ q) ∧ Keeps (fun _ => False) w w' := by
  refine (redo_new most hm w h0).mono ?_
  rintro e w' ⟨r, v1, v2, bt, p, K, vf, Ot, h1, h2, h3, h4⟩
  exact ⟨r, h1, ⟨_, ⟨v1, v2, bt, p, K, vf, Ot, h2, fun q => Iff.rfl⟩, h3⟩, h4⟩

/-- Is there no room for a new address? -/
def Full (most : Nat) (L : List (Int × Int)) (a : Int) : Prop := ¬ idxE (redoE L) a < (redoE L).length ∧ most ≤ (redoE L).length

theorem log_put (r most : Nat) (L : List (Int × Int)) (Ow : Nat → Prop) (a x : Int) (w : World) (h : LogAt w r most L Ow) (hw : Tz w) (hm : L.length < 4398046511104) (hf : ¬ Full most L a) :
    Calls Tryd.prog 29 #[.pointer (some ⟨r, 0, none⟩), .int .u64 a, .int .u64 x] w fun e w' => e = .returned (.int .i64 0) ∧ (∃ Ow', LogAt w' r most (L ++ [(a, x)]) Ow' ∧ ∀ q, Ow' q → Ow q ∨ w.heap.size ≤ q) ∧ Keeps Ow w w' := by
  obtain ⟨v1, v2, bt, p, K, vf, Ot, h1, h2⟩ := h
  have hmu : (redoU L).length < 4398046511104 := by rw [redoU_length]; exact hm
  by_cases hi : idxE (redoE L) a < (redoE L).length
  · refine (redo_put_in r most bt p _ _ v1 v2 K vf Ot a x w h1 hw hi hmu).mono ?_
    rintro e w' ⟨rfl, v2', g1, g2, g3⟩
    refine ⟨rfl, ⟨_, ⟨v1, v2', bt, p, K, vf, Ot, by rw [redoE_snoc, redoU_snoc]; exact g1, fun q => Iff.rfl⟩, fun q hq => ?_⟩, g3.mono (fun q _ hq => (h2 q).2 hq)⟩
    rcases hq with hq | hq | hq | hq
    · exact .inl ((h2 q).2 (.inl hq))
    · exact .inl ((h2 q).2 (.inr (.inl hq)))
    · rcases g2 q hq with hq | hq
      · exact .inl ((h2 q).2 (.inr (.inr (.inl hq))))
      · exact .inr hq
    · exact .inl ((h2 q).2 (.inr (.inr (.inr hq))))
  · have hlt : (redoE L).length < most := by
      have : ¬ most ≤ (redoE L).length := fun e => hf ⟨hi, e⟩
      omega
    refine (redo_put_new r most bt p _ _ v1 v2 K vf Ot a x w h1 hw hi hlt hmu).mono ?_
    rintro e w' ⟨rfl, v1', v2', p', K', vf', Ot', g1, g2, g3⟩
    exact ⟨rfl, ⟨_, ⟨v1', v2', bt, p', K', vf', Ot', by rw [redoE_snoc, redoU_snoc]; exact g1, fun q => Iff.rfl⟩, fun q hq => (g2 q hq).imp (h2 q).2 id⟩, g3.mono (fun q _ hq => (h2 q).2 hq)⟩
theorem log_put_full (r most : Nat) (L : List (Int × Int)) (Ow : Nat → Prop) (a x : Int) (w : World) (h : LogAt w r most L Ow) (hw : Tz w) (hf : Full most L a) :
    Calls Tryd.prog 29 #[.pointer (some ⟨r, 0, none⟩), .int .u64 a, .int .u64 x] w fun e w' => e = .returned (.int .i64 5) ∧ Like w' w := by
  obtain ⟨v1, v2, bt, p, K, vf, Ot, h1, h2⟩ := h
  exact redo_put_full r most bt p _ _ v1 v2 K vf Ot a x w h1 hw hf.1 hf.2

theorem log_get (r most : Nat) (L : List (Int × Int)) (Ow : Nat → Prop) (a : Int) (w : World) (h : LogAt w r most L Ow) (hw : Tz w) :
    Calls Tryd.prog 37 #[.pointer (some ⟨r, 0, none⟩), .int .u64 a] w fun e w' => e = .returned (.tuple #[.int .u64 (if idxE (redoE L) a < (redoE L).length then wordE (redoE L) a else 0), .bool (decide (idxE (redoE L) a < (redoE L).length))]) ∧ w' = w := by
  obtain ⟨v1, v2, bt, p, K, vf, Ot, h1, h2⟩ := h
  exact redo_get r most bt p _ _ v1 v2 K vf Ot a w h1 hw
theorem log_len (r most : Nat) (L : List (Int × Int)) (Ow : Nat → Prop) (w : World) (h : LogAt w r most L Ow) :
    Calls Tryd.prog 35 #[.pointer (some ⟨r, 0, none⟩)] w fun e w' => e = .returned (.int .i64 (redoE L).length) ∧ w' = w := by
  obtain ⟨v1, v2, bt, p, K, vf, Ot, h1, h2⟩ := h
  obtain ⟨a, c, e, _, _⟩ := h1.ents.form
  have := h1.c1
  rw [e] at this
  exact redo_len r a _ c w this
theorem log_mark (r most : Nat) (L : List (Int × Int)) (Ow : Nat → Prop) (w : World) (h : LogAt w r most L Ow) :
    Calls Tryd.prog 33 #[.pointer (some ⟨r, 0, none⟩)] w fun e w' => e = .returned (.int .i64 L.length) ∧ w' = w := by
  obtain ⟨v1, v2, bt, p, K, vf, Ot, h1, h2⟩ := h
  obtain ⟨a, c, e, _, _⟩ := h1.puts.form
  have := h1.c3
  rw [e, redoU_length] at this
  exact redo_mark r a _ c w this
theorem log_back (r most : Nat) (L : List (Int × Int)) (Ow : Nat → Prop) (m : Nat) (w : World) (h : LogAt w r most L Ow) (hw : Tz w) (h0 : ∀ q, Ow q → 0 < q) (hm : m ≤ L.length) :
    Calls Tryd.prog 34 #[.pointer (some ⟨r, 0, none⟩), .int .i64 m] w fun e w' => e = .returned (.int .i64 0) ∧ (∃ Ow', LogAt w' r most (L.take m) Ow' ∧ ∀ q, Ow' q → Ow q) ∧ Keeps Ow w w' := by
  obtain ⟨v1, v2, bt, p, K, vf, Ot, h1, h2⟩ := h
  refine (redo_back_ok r most bt p L v1 v2 K vf Ot m w h1 hw (fun q hq => h0 q ((h2 q).2 hq)) hm).mono ?_
  rintro e w' ⟨rfl, v1', v2', K', Ot', g1, g2, g3⟩
  exact ⟨rfl, ⟨_, ⟨v1', v2', bt, p, K', vf, Ot', g1, fun q => Iff.rfl⟩, fun q hq => (h2 q).2 (g2 q hq)⟩, g3.mono (fun q _ hq => (h2 q).2 hq)⟩

set_option maxHeartbeats 400000 in
/-- At of a list of entries, in it. -/
theorem at_in (v : Value) (es : List (Int × Int)) (i : Nat) (a x : Int) (w : World) (h : Row w 72 2 v es.length (entV es)) (hes : es.length ≤ 4398046511104) (hi : es[i]? = some (a, x)) :
    Calls Tryd.prog 57 #[v, .int .i64 i] w fun e w' => e = .returned (.tuple #[.agg #[.int .u64 a, .int .u64 x], .bool true]) ∧ Keeps (fun _ => False) w w' := by
  have hlt : i < es.length := (List.getElem?_eq_some_iff.1 hi).1
  obtain ⟨g, cap, rfl, h2, h3, h4, h5⟩ := h.at (by omega)
  obtain ⟨e1, e2⟩ := entV_get es i (a, x) hi
  have c1 := (h4 (i * 2) (by omega)).trans e1
  have c2 := (h4 (i * 2 + 1) (by omega)).trans e2
  have hgl := World.block_lt_of_cell? _ _ c1
  have hk : Keeps (fun _ => False) w (w.alloc (.cells #[.int .u64 a, .int .u64 x] 72)) := (Keeps.refl _ w).alloc _
  have d1 : (w.alloc (.cells #[.int .u64 0, .int .u64 0] 72)).cell? ⟨g, i * 2, none⟩ = some (.int .u64 a) := (World.cell?_alloc_lt w _ ⟨g, i * 2, none⟩ hgl).trans c1
  have d2 : (w.alloc (.cells #[.int .u64 0, .int .u64 0] 72)).cell? ⟨g, i * 2 + 1, none⟩ = some (.int .u64 x) := (World.cell?_alloc_lt w _ ⟨g, i * 2 + 1, none⟩ hgl).trans c2
  have hil : (i : Int) < (es.length : Int) := by omega
  have hi0 : (0 : Int) ≤ (i : Int) := by omega
  clear h h4 h5 hi e1 e2 hlt
  go_enter Tryd.func57, Tryd.ntmps57
  go_wp2_with fail
  refine bodyPost_ret (v := .tuple #[.agg #[.int .u64 a, .int .u64 x], .bool true]) (by rw [results_cell_tmp rfl]; go_simp) rfl ?_
  exact ⟨rfl, hk⟩
theorem at_out (v : Value) (es : List (Int × Int)) (i : Int) (w : World) (h : Row w 72 2 v es.length (entV es)) (hes : es.length ≤ 4398046511104) (hi : i < 0 ∨ es.length ≤ i) :
    Calls Tryd.prog 57 #[v, .int .i64 i] w fun e w' => e = .returned (.tuple #[.agg #[.int .u64 0, .int .u64 0], .bool false]) ∧ Keeps (fun _ => False) w w' := by
  obtain ⟨a, c, rfl, _, _⟩ := h.form
  have hk : Keeps (fun _ => False) w (w.alloc (.cells #[.int .u64 0, .int .u64 0] 72)) := (Keeps.refl _ w).alloc _
  clear h
  rcases hi with hi | hi
  · go_enter Tryd.func57, Tryd.ntmps57
    go_wp2_with fail
    refine bodyPost_ret (v := .tuple #[.agg #[.int .u64 0, .int .u64 0], .bool false]) (by rw [results_cell_tmp rfl]; go_simp) rfl ?_
    exact ⟨rfl, hk⟩
  · have hi0 : 0 ≤ i := by omega
    go_enter Tryd.func57, Tryd.ntmps57
    go_wp2_with fail
    refine bodyPost_ret (v := .tuple #[.agg #[.int .u64 0, .int .u64 0], .bool false]) (by rw [results_cell_tmp rfl]; go_simp) rfl ?_
    exact ⟨rfl, hk⟩

set_option maxHeartbeats 400000 in
theorem log_at (r most : Nat) (L : List (Int × Int)) (Ow : Nat → Prop) (i : Nat) (a x : Int) (w : World) (h : LogAt w r most L Ow) (hi : (redoE L)[i]? = some (a, x)) :
    Calls Tryd.prog 36 #[.pointer (some ⟨r, 0, none⟩), .int .i64 i] w fun e w' => e = .returned (.tuple #[.agg #[.int .u64 a, .int .u64 x], .bool true]) ∧ Keeps (fun _ => False) w w' := by
  have hfit := h.fit
  obtain ⟨v1, v2, bt, p, K, vf, Ot, h1, h2⟩ := h
  have hka : Keeps (fun _ => False) w (w.alloc (.cells #[.int .u64 0, .int .u64 0] 72)) := (Keeps.refl _ w).alloc _
  have hA := h1.kept hka (fun _ _ f => f)
  have hat := at_in v1 _ i a x _ hA.ents (by omega) hi
  have c1 := hA.c1
  have hb := alloc_block w (.cells #[.int .u64 0, .int .u64 0] 72)
  clear h1 hA hi
  go_enter Tryd.func36, Tryd.ntmps36
  go_wp2_with fail
  generalize w.alloc (.cells #[.int .u64 0, .int .u64 0] 72) = W1 at *
  refine hat.mono ?_
  rintro e w2 ⟨rfl, hk2⟩
  have hb2 := hk2.old hb (fun f => f)
  have hkk := (hka.trans hk2)
  have e0 : w2.cell? ⟨w.heap.size, 0, none⟩ = some (.int .u64 0) := cell_of_block hb2 0
  have e1 : w2.cell? ⟨w.heap.size, 1, none⟩ = some (.int .u64 0) := cell_of_block hb2 1
  have f0 : w2.frozen? ⟨w.heap.size, 0, none⟩ = false := frozen_of_block hb2 0
  have f1 : w2.frozen? ⟨w.heap.size, 1, none⟩ = false := frozen_of_block hb2 1
  go_wp2_with fail
  refine bodyPost_ret (v := .tuple #[.agg #[.int .u64 a, .int .u64 x], .bool true]) (by rw [results_cell_tmp rfl]; go_simp) rfl ?_
  refine ⟨rfl, ?_⟩
  exact (hkk.setCell (p := ⟨w.heap.size, 0, none⟩) (.inl (Nat.le_refl _)) _).setCell (p := ⟨w.heap.size, 1, none⟩) (.inl (Nat.le_refl _)) _
end Go.Proofs.YtbgnlenhncbceaaDoor
