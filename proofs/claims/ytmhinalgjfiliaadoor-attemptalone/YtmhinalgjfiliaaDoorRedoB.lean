
/-
  Put on a redo log. No statement of the seat is proved here.
-/
import Derived.Test.YtmhinalgjfiliaaDoorRedoA
import Derived.Deep.RegionHeld3
namespace Go.Proofs.YtmhinalgjfiliaaDoor
open Go.RowKit Go.Shelf

/-- An append whose run is known, in a region. -/
theorem wp_append_run {P : Program} {w w' : World} {o : Oper} {a : Act} {K : Act → World → Prop} {Q : Exit → Act → World → Prop} (s x : Operand) (t : TypeId)
    (ho : o.op = .call { callee := .builtin .append, args := #[s, x], argTypes := #[t, t] }) {v y v' : Value} (hs : a.eval s = v) (hx : a.eval x = y) (hr : (Builtin.append_ #[t, t] o.type #[v, y]).run P w = .ok v' w')
    (h : K (a.put o.dst v') w') : o.wp P a w K Q := by
  unfold Oper.wp
  simp [execOp, ho, resolve, invoke, builtin, hs, hx, hr, Result.andThen]
  exact h

theorem wp_held_end {P : Program} {ops : Array Oper} {Q : Exit → Act → World → Prop} {id : Nat} {a : Act} {w : World} {S : World → Prop} (N : Nat) (hN : ops.size = N) (hm : P.follows .mixedOrders = true)
    (h : wpAnyH P .any ops (atEnd (Q .normal)) S N (Array.replicate N false) a w.drew) : (Code.region id ops true).wp P Q a w := by
  subst hN
  exact Code.wp_mono (fun e a w h => by cases e <;> first | exact h | exact h.elim) (wp_region_held hm h)

section
variable {w w1 : World} {r most bt p : Nat} {es : List (Int × Int)} {pu : List Pt} {v1 v2 : Value} {K : List (Option Int)} {vf : Int → Value} {Ot : Nat → Prop}

/-- A Put is kept for the way back. -/
theorem RedoAt.pushed (h : RedoAt w r most es pu v1 v2 bt p K vf Ot) {pt : Pt} {g2 cap2 : Nat} (hrow : Row w1 110 3 (.slice (some ⟨g2, 0, none⟩) (pu.length + 1) cap2) (pu ++ [pt]).length (putV (pu ++ [pt])))
    (hk : (w.heap.size ≤ g2 ∧ Keeps (fun _ => False) w w1) ∨ (v2.ownBlock = some g2 ∧ Keeps (fun k => k = g2) w w1)) (hm : pu.length < 4398046511104) :
    RedoAt (w1.setCell ⟨r, 3, none⟩ (.slice (some ⟨g2, 0, none⟩) (pu.length + 1) cap2)) r most es (pu ++ [pt]) v1 (.slice (some ⟨g2, 0, none⟩) (pu.length + 1) cap2) bt p K vf Ot ∧
      (∀ q, (Value.slice (some ⟨g2, 0, none⟩) (pu.length + 1) cap2).ownBlock = some q → v2.ownBlock = some q ∨ w.heap.size ≤ q) ∧ Keeps (ROwn r v1 v2 Ot) w (w1.setCell ⟨r, 3, none⟩ (.slice (some ⟨g2, 0, none⟩) (pu.length + 1) cap2)) := by
  have hk1 : Keeps (fun k => v2.ownBlock = some k) w w1 := by
    rcases hk with ⟨_, hk⟩ | ⟨e, hk⟩
    · exact hk.mono (fun _ _ f => f.elim)
    · exact hk.mono (fun k _ f => by subst f; exact e)
  have hn := h.ner
  have hlt := lt_of_block h.box
  have hg2 : g2 ≠ r := by
    rcases hk with ⟨hk, _⟩ | ⟨e, hk⟩
    · omega
    · rintro rfl
      exact hn.2.1 e
  have b1 : w1.heap[r]? = _ := hk1.old h.box hn.2.1
  have k2 : ∀ v, Keeps (fun k => k = r) w1 (w1.setCell ⟨r, 3, none⟩ v) := fun v => (Keeps.refl (fun k => k = r) w1).setCell (p := ⟨r, 3, none⟩) (.inr rfl) v
  refine ⟨⟨?_, (h.ents.kept hk1 (fun g hg => (h.ne1 hg).2.1)).kept (k2 _) (fun g hg => (h.ne1 hg).1), hrow.kept (k2 _) (fun g hg => ?_), (h.tab.kept hk1 (fun q hq e => (h.ne2 e).2.2 hq)).kept (k2 _) (fun q hq e => hn.2.2 (e ▸ hq)), h.place, h.fit, h.most20, by simp; omega, fun q hq => ?_, h.pos⟩, ?_, ?_⟩
  · have := block_set b1 3 (.slice (some ⟨g2, 0, none⟩) (pu.length + 1) cap2)
    exact this
  · simp [Value.ownBlock] at hg
    omega
  · obtain ⟨c, t, h1, h2⟩ := h.kinds q hq
    exact ⟨c, t, (k2 _).old (hk1.old h1 (fun e => (h.ne2 e).2.2 hq)) (fun e => hn.2.2 (e ▸ hq)), h2⟩
  · intro q hq
    simp [Value.ownBlock] at hq
    subst hq
    rcases hk with ⟨hk, _⟩ | ⟨e, hk⟩
    · exact .inr hk
    · exact .inl e
  · exact (hk1.mono (T := ROwn r v1 v2 Ot) (fun q _ e => .inr (.inr (.inl e)))).setCell (p := ⟨r, 3, none⟩) (.inr (.inl rfl)) _
/-- An entry's word is stored. -/
theorem RedoAt.worded (h : RedoAt w r most es pu v1 v2 bt p K vf Ot) {i g : Nat} {a x y : Int} (hi : es[i]? = some (a, x)) (hg : v1.ownBlock = some g) :
    RedoAt (w.setCell ⟨g, i * 2 + 1, none⟩ (.int .u64 y)) r most (es.set i (a, y)) pu v1 v2 bt p K vf Ot := by
  have hn := h.ne1 hg
  have k2 : Keeps (fun k => k = g) w (w.setCell ⟨g, i * 2 + 1, none⟩ (.int .u64 y)) := (Keeps.refl (fun k => k = g) w).setCell (p := ⟨g, i * 2 + 1, none⟩) (.inr rfl) _
  have hr := h.ents.store (j := i * 2 + 1) hg (.int .u64 y)
  rw [entV_set es i a x y hi] at hr
  have hkeys : (es.set i (a, y)).map Prod.fst = es.map Prod.fst := by
    rw [List.map_set]
    apply List.ext_getElem?
    intro j
    rw [List.getElem?_set]
    split
    · rename_i e
      subst e
      rw [if_pos (by simpa using (List.getElem?_eq_some_iff.1 hi).1), List.getElem?_map, hi]
      rfl
    · rfl
  refine ⟨k2.old h.box (Ne.symm hn.1), by rw [List.length_set]; exact hr, h.puts.kept k2 (fun q hq e => hn.2.1 (e ▸ hq)), by rw [hkeys]; exact h.tab.kept k2 (fun q hq e => hn.2.2 (e ▸ hq)), fun j b z hj => ?_, by rw [List.length_set]; exact h.fit, h.most20, h.many, fun q hq => ?_, h.pos⟩
  · rw [List.getElem?_set] at hj
    split at hj
    · rename_i e
      subst e
      split at hj
      · simp at hj
        obtain ⟨rfl, rfl⟩ := hj
        exact h.place _ _ _ hi
      · cases hj
    · exact h.place _ _ _ hj
  · obtain ⟨c, t, h1, h2⟩ := h.kinds q hq
    exact ⟨c, t, k2.old h1 (fun e => hn.2.2 (e ▸ hq)), h2⟩
end

set_option maxRecDepth 100000 in
set_option maxHeartbeats 400000 in
theorem redo_put_in (r most bt p : Nat) (es : List (Int × Int)) (pu : List Pt) (v1 v2 : Value) (K : List (Option Int)) (vf : Int → Value) (Ot : Nat → Prop) (a x : Int) (w : World) (h : RedoAt w r most es pu v1 v2 bt p K vf Ot) (hw : Tz w) (hi : idxE es a < es.length) (hm : pu.length < 4398046511104) :
    Calls Tryd.prog 29 #[.pointer (some ⟨r, 0, none⟩), .int .u64 a, .int .u64 x] w fun e w' => e = .returned (.int .i64 0) ∧ ∃ v2', RedoAt w' r most (putE es a x) (pu ++ [ptOf es a]) v1 v2' bt p K vf Ot ∧ (∀ q, v2'.ownBlock = some q → v2.ownBlock = some q ∨ w.heap.size ≤ q) ∧ Keeps (ROwn r v1 v2 Ot) w w' := by
  have ht := redo_there r bt w h.c2
  have c1 := h.c1
  have c2 := h.c2
  have c3 := h.c3
  have hg := h.found hw a hi
  obtain ⟨g, cap, hv1, hcap, hmax, e1, e2, e3⟩ := h.entry (idxE_at hi)
  have hes : es.length ≤ 1048576 := Nat.le_trans h.fit h.most20
  have hpt : ptOf es a = ⟨false, idxE es a, wordE es a⟩ := if_pos hi
  have hpe : putE es a x = es.set (idxE es a) (a, x) := if_pos hi
  obtain ⟨g2, cap2, w1, hr, hrow, hk⟩ := append_put (w := w.drew) (ptOf es a) (h.puts.like ⟨rfl, rfl, rfl, rfl⟩) hm
  rw [hpt] at hr
  have HR : Hid (_ = _) := hr
  have hk' : (w.heap.size ≤ g2 ∧ Keeps (fun _ => False) w w1) ∨ (v2.ownBlock = some g2 ∧ Keeps (fun k => k = g2) w w1) := by
    rcases hk with ⟨q1, q2⟩ | ⟨q1, q2⟩
    · exact .inl ⟨q1, q2.os, q2.tape, q2.output, q2.size, q2.block⟩
    · exact .inr ⟨q1, q2.os, q2.tape, q2.output, q2.size, q2.block⟩
  obtain ⟨hA, hB, hC⟩ := h.pushed hrow hk' hm
  have hv1b : v1.ownBlock = some g := by rw [hv1]; rfl
  have hA2 := hA.worded (y := x) (idxE_at hi) hv1b
  have hend : Hid (∃ v2', RedoAt ((w1.setCell ⟨r, 3, none⟩ (.slice (some ⟨g2, 0, none⟩) (pu.length + 1) cap2)).setCell ⟨g, idxE es a * 2 + 1, none⟩ (.int .u64 x)) r most (putE es a x) (pu ++ [ptOf es a]) v1 v2' bt p K vf Ot ∧ (∀ q, v2'.ownBlock = some q → v2.ownBlock = some q ∨ w.heap.size ≤ q) ∧ Keeps (ROwn r v1 v2 Ot) w ((w1.setCell ⟨r, 3, none⟩ (.slice (some ⟨g2, 0, none⟩) (pu.length + 1) cap2)).setCell ⟨g, idxE es a * 2 + 1, none⟩ (.int .u64 x))) :=
    ⟨_, by rw [hpe]; exact hA2, hB, hC.setCell (p := ⟨g, idxE es a * 2 + 1, none⟩) (.inr (.inr (.inl hv1b))) _⟩
  obtain ⟨g', cap', hv1', _, _, f1, f2, f3⟩ := hA.entry (idxE_at hi)
  obtain ⟨rfl, rfl⟩ : g' = g ∧ cap' = cap := by
    rw [hv1] at hv1'
    injection hv1' with q1 _ q3
    injection q1 with q1
    injection q1 with q1
    exact ⟨q1.symm, q3.symm⟩
  have hne : r ≠ g' := fun e => (h.ne1 hv1b).1 e.symm
  have d2 : w1.cell? ⟨g', idxE es a * 2 + 1, none⟩ = some (.int .u64 (wordE es a)) := by
    rw [← f2]
    exact (World.cell?_of_block (Below.heap_setCell w1 ⟨r, 3, none⟩ _ g' (Ne.symm hne))).symm
  have d3 : w1.cell? ⟨r, 3, none⟩ = some v2 := by
    have hn := h.ner
    have hb : w1.heap[r]? = w.heap[r]? := by
      rcases hk' with ⟨_, q2⟩ | ⟨q1, q2⟩
      · exact q2.block _ (lt_of_block h.box) (fun f => f)
      · exact q2.block _ (lt_of_block h.box) (fun e => hn.2.1 (e ▸ q1))
    rw [← c3]
    exact World.cell?_of_block hb
  have d4 : w1.frozen? ⟨r, 3, none⟩ = false := by
    have := hA.fr 3
    simpa using this
  have fg := f3 (idxE es a * 2 + 1)
  have hlt : w.cell? ⟨r, 3, none⟩ = some v2 := c3
  have hca : (w.drew.alloc (.cells #[.bool false, .int .i64 (idxE es a), .int .u64 (wordE es a)] 110)).cell? ⟨r, 3, none⟩ = some v2 := (World.cell?_alloc_lt w.drew _ ⟨r, 3, none⟩ (lt_of_block h.box)).trans c3
  have hca2 : (w.drew.alloc (.cells #[.bool false, .int .i64 (idxE es a), .int .u64 (wordE es a)] 110)).cell? ⟨g', idxE es a * 2 + 1, none⟩ = some (.int .u64 (wordE es a)) := (World.cell?_alloc_lt w.drew _ ⟨g', idxE es a * 2 + 1, none⟩ (World.block_lt_of_cell? _ _ e2)).trans e2
  have hcb : (w.alloc (.cells #[.bool false, .int .i64 (idxE es a), .int .u64 (wordE es a)] 110)).cell? ⟨r, 3, none⟩ = some v2 := (World.cell?_alloc_lt w _ ⟨r, 3, none⟩ (lt_of_block h.box)).trans c3
  subst hv1
  clear hA hB hC hA2 hk hk' hr hrow h hv1' e3 f3 hpt hpe f1
  generalize idxE es a = j at *
  generalize wordE es a = y at *
  have hmx : Tryd.prog.follows .mixedOrders = true := by kernel_rfl
  have hS0 : w.drew.cell? ⟨g', j * 2 + 1, none⟩ = some (.int .u64 y) := e2
  have hS1 := hca2
  have hS2 := d2
  have hS3 := f2
  go_enter Tryd.func29, Tryd.ntmps29
  go_wp2_with (first | (go_at_call 49; refine ht.mono ?_; rintro e w' ⟨rfl, hw'⟩; replace hw' := hw'.symm; subst hw') | (go_at_call 50; refine hg.mono ?_; rintro e w' ⟨rfl, hw'⟩; replace hw' := hw'.symm; subst hw'))
  refine wp_held_end (S := fun W => W.cell? ⟨g', j * 2 + 1, none⟩ = some (.int .u64 y)) 16 rfl hmx ?_
  refine held_take (i := 0) (v := .pointer (some ⟨r, 0, none⟩)) 29 rfl rfl (by kernel_rfl) (by kernel_rfl) (by kernel_rfl) rfl (fun w' hw' => by go_simp) hS0 ?_
  simp only [Act.put, List.setIfInBounds_toArray, List.set_cons_zero, List.set_cons_succ]
  refine held_take (i := 1) (v := .pointer (some ⟨r, 0, none⟩)) 30 rfl rfl (by kernel_rfl) (by kernel_rfl) (by kernel_rfl) rfl (fun w' hw' => by go_simp) hS0 ?_
  simp only [Act.put, List.setIfInBounds_toArray, List.set_cons_zero, List.set_cons_succ]
  refine held_take (i := 2) (v := .pointer (some ⟨r, 0, none⟩)) 31 rfl rfl (by kernel_rfl) (by kernel_rfl) (by kernel_rfl) rfl (fun w' hw' => by go_simp) hS0 ?_
  simp only [Act.put, List.setIfInBounds_toArray, List.set_cons_zero, List.set_cons_succ]
  refine held_take (i := 3) (v := .pointer (some ⟨r, 3, none⟩)) 32 rfl rfl (by kernel_rfl) (by kernel_rfl) (by kernel_rfl) rfl (fun w' hw' => by go_simp) hS0 ?_
  simp only [Act.put, List.setIfInBounds_toArray, List.set_cons_zero, List.set_cons_succ]
  refine held_take (i := 5) (v := .int .i64 j) 34 rfl rfl (by kernel_rfl) (by kernel_rfl) (by kernel_rfl) rfl (fun w' hw' => by go_simp) hS0 ?_
  simp only [Act.put, List.setIfInBounds_toArray, List.set_cons_zero, List.set_cons_succ]
  refine held_take (i := 6) (v := .pointer (some ⟨g', j * 2, none⟩)) 35 rfl rfl (by kernel_rfl) (by kernel_rfl) (by kernel_rfl) rfl (fun w' hw' => by go_simp) hS0 ?_
  simp only [Act.put, List.setIfInBounds_toArray, List.set_cons_zero, List.set_cons_succ]
  refine held_take (i := 7) (v := .pointer (some ⟨g', j * 2, none⟩)) 36 rfl rfl (by kernel_rfl) (by kernel_rfl) (by kernel_rfl) rfl (fun w' hw' => by go_simp) hS0 ?_
  simp only [Act.put, List.setIfInBounds_toArray, List.set_cons_zero, List.set_cons_succ]
  refine held_take (i := 8) (v := .pointer (some ⟨g', j * 2 + 1, none⟩)) 37 rfl rfl (by kernel_rfl) (by kernel_rfl) (by kernel_rfl) rfl (fun w' hw' => by go_simp) hS0 ?_
  simp only [Act.put, List.setIfInBounds_toArray, List.set_cons_zero, List.set_cons_succ]
  refine held_take (i := 9) (v := .int .u64 y) 38 rfl rfl (by kernel_rfl) (by kernel_rfl) (by kernel_rfl) rfl (fun w' hw' => by go_simp) hS0 ?_
  simp only [Act.put, List.setIfInBounds_toArray, List.set_cons_zero, List.set_cons_succ]
  refine held_take (i := 10) (v := .agg #[.bool false, .int .i64 j, .int .u64 y]) 39 rfl rfl (by kernel_rfl) (by kernel_rfl) (by kernel_rfl) rfl (fun w' hw' => by go_simp) hS0 ?_
  simp only [Act.put, List.setIfInBounds_toArray, List.set_cons_zero, List.set_cons_succ]
  refine held_val2 (i := 4) (j := 11) (vi := v2) (vj := .slice (some ⟨w.drew.heap.size, 0, none⟩) 1 1) (wi := w.drew) (wj := w.drew.alloc (.cells #[.bool false, .int .i64 j, .int .u64 y] 110)) (some 33) (some 40) (by kernel_rfl) rfl rfl rfl rfl rfl rfl (by go_simp) (by go_simp) hS0 hS1 ?_ ?_
  · simp only [Act.put, List.setIfInBounds_toArray, List.set_cons_zero, List.set_cons_succ]
    refine held_val (i := 11) (v := .slice (some ⟨w.drew.heap.size, 0, none⟩) 1 1) (w' := w.drew.alloc (.cells #[.bool false, .int .i64 j, .int .u64 y] 110)) (some 40) (by kernel_rfl) rfl rfl rfl (by go_simp) hS1 ?_
    simp only [Act.put, List.setIfInBounds_toArray, List.set_cons_zero, List.set_cons_succ]
    refine held_val (i := 12) (v := .slice (some ⟨g2, 0, none⟩) (pu.length + 1) cap2) (w' := w1) (some 41) (by kernel_rfl) rfl rfl rfl (run_append_op rfl rfl rfl HR.out) hS2 ?_
    simp only [Act.put, List.setIfInBounds_toArray, List.set_cons_zero, List.set_cons_succ]
    refine held_take (i := 13) (v := .pointer (some ⟨r, 0, none⟩)) 42 rfl rfl (by kernel_rfl) (by kernel_rfl) (by kernel_rfl) rfl (fun w' hw' => by go_simp) hS2 ?_
    simp only [Act.put, List.setIfInBounds_toArray, List.set_cons_zero, List.set_cons_succ]
    refine held_take (i := 14) (v := .pointer (some ⟨r, 3, none⟩)) 43 rfl rfl (by kernel_rfl) (by kernel_rfl) (by kernel_rfl) rfl (fun w' hw' => by go_simp) hS2 ?_
    simp only [Act.put, List.setIfInBounds_toArray, List.set_cons_zero, List.set_cons_succ]
    refine held_none (i := 15) (w' := w1.setCell ⟨r, 3, none⟩ (.slice (some ⟨g2, 0, none⟩) (pu.length + 1) cap2)) (by kernel_rfl) rfl rfl rfl (by go_simp) hS3 ?_
    refine held_end (by kernel_rfl) ?_ _
    go_wp2_with fail
    go_ret
    exact ⟨rfl, hend.out⟩
  · simp only [Act.put, List.setIfInBounds_toArray, List.set_cons_zero, List.set_cons_succ]
    refine held_val (i := 4) (v := v2) (w' := w.drew.alloc (.cells #[.bool false, .int .i64 j, .int .u64 y] 110)) (some 33) (by kernel_rfl) rfl rfl rfl (by go_simp) hS1 ?_
    simp only [Act.put, List.setIfInBounds_toArray, List.set_cons_zero, List.set_cons_succ]
    refine held_val (i := 12) (v := .slice (some ⟨g2, 0, none⟩) (pu.length + 1) cap2) (w' := w1) (some 41) (by kernel_rfl) rfl rfl rfl (run_append_op rfl rfl rfl HR.out) hS2 ?_
    simp only [Act.put, List.setIfInBounds_toArray, List.set_cons_zero, List.set_cons_succ]
    refine held_take (i := 13) (v := .pointer (some ⟨r, 0, none⟩)) 42 rfl rfl (by kernel_rfl) (by kernel_rfl) (by kernel_rfl) rfl (fun w' hw' => by go_simp) hS2 ?_
    simp only [Act.put, List.setIfInBounds_toArray, List.set_cons_zero, List.set_cons_succ]
    refine held_take (i := 14) (v := .pointer (some ⟨r, 3, none⟩)) 43 rfl rfl (by kernel_rfl) (by kernel_rfl) (by kernel_rfl) rfl (fun w' hw' => by go_simp) hS2 ?_
    simp only [Act.put, List.setIfInBounds_toArray, List.set_cons_zero, List.set_cons_succ]
    refine held_none (i := 15) (w' := w1.setCell ⟨r, 3, none⟩ (.slice (some ⟨g2, 0, none⟩) (pu.length + 1) cap2)) (by kernel_rfl) rfl rfl rfl (by go_simp) hS3 ?_
    refine held_end (by kernel_rfl) ?_ _
    go_wp2_with fail
    go_ret
    exact ⟨rfl, hend.out⟩
end Go.Proofs.YtmhinalgjfiliaaDoor
