
/-
  Put of an address that is not there, and a new redo log. No statement of the seat is proved here.
-/
import Derived.Test.YtmhinalgjfiliaaDoorRedoB
namespace Go.Proofs.YtmhinalgjfiliaaDoor
open Go.RowKit Go.Shelf

/-- A block has one kind. -/
theorem kind_ne {w : World} {q : Nat} {c c' : Array Value} {t t' : TypeId} {fr fr' : Nat × Nat} (h : w.heap[q]? = some (.cells c t fr)) (h' : w.heap[q]? = some (.cells c' t' fr')) : t = t' := by
  rw [h] at h'
  injection h' with h'
  injection h' with _ h2 _

section
variable {w w4 w5 : World} {r most bt p p' : Nat} {es : List (Int × Int)} {pu : List Pt} {v1 v2 : Value} {K K' : List (Option Int)} {vf : Int → Value} {Ot Ot' : Nat → Prop}
/-- A new entry stands behind the others. -/
theorem RedoAt.came (h : RedoAt w r most es pu v1 v2 bt p K vf Ot) {a x : Int} (hfit : es.length < most) (ha : a ∉ es.map Prod.fst) (k4 : Keeps Ot w w4) (tab4 : I.Holds w4 bt p' K' (es.map Prod.fst ++ [a]) (upd vf a (.int .i64 es.length)) Ot') (hOt : ∀ q, Ot' q → Ot q ∨ w.heap.size ≤ q)
    {g1 cap1 : Nat} (hrow : Row w5 44 2 (.slice (some ⟨g1, 0, none⟩) (es.length + 1) cap1) (es ++ [(a, x)]).length (entV (es ++ [(a, x)])))
    (hk : (w4.heap.size ≤ g1 ∧ Keeps (fun _ => False) w4 w5) ∨ (v1.ownBlock = some g1 ∧ Keeps (fun k => k = g1) w4 w5)) :
    RedoAt (w5.setCell ⟨r, 1, none⟩ (.slice (some ⟨g1, 0, none⟩) (es.length + 1) cap1)) r most (es ++ [(a, x)]) pu (.slice (some ⟨g1, 0, none⟩) (es.length + 1) cap1) v2 bt p' K' (upd vf a (.int .i64 es.length)) Ot' ∧
      (∀ q, ROwn r (.slice (some ⟨g1, 0, none⟩) (es.length + 1) cap1) v2 Ot' q → ROwn r v1 v2 Ot q ∨ w.heap.size ≤ q) ∧ Keeps (ROwn r v1 v2 Ot) w (w5.setCell ⟨r, 1, none⟩ (.slice (some ⟨g1, 0, none⟩) (es.length + 1) cap1)) := by
  have hn := h.ner
  have hlt := lt_of_block h.box
  have hs4 := k4.size
  have b4 := k4.old h.box hn.2.2
  have e4 := h.ents.kept k4 (fun g hg => (h.ne1 hg).2.2)
  have p4 := h.puts.kept k4 (fun g hg => (h.ne2 hg).2.2)
  have kd4 := holds_kinds tab4
  have hk1 : Keeps (fun k => v1.ownBlock = some k) w4 w5 := by
    rcases hk with ⟨_, hk⟩ | ⟨e, hk⟩
    · exact hk.mono (fun _ _ f => f.elim)
    · exact hk.mono (fun k _ f => by subst f; exact e)
  have hg1 : g1 ≠ r := by
    rcases hk with ⟨hk, _⟩ | ⟨e, hk⟩
    · omega
    · rintro rfl
      exact hn.1 e
  have hOr : ¬ Ot' r := fun e => by
    obtain ⟨c, t, q1, q2, _⟩ := kd4 r e
    exact q2 (kind_ne q1 b4)
  have hO1 : ∀ q, Ot' q → v1.ownBlock ≠ some q := fun q e e1 => by
    obtain ⟨c, t, q1, _, q2, _⟩ := kd4 q e
    obtain ⟨c', hc⟩ := e4.kind e1
    exact q2 (kind_ne q1 hc)
  have k2 : ∀ v, Keeps (fun k => k = r) w5 (w5.setCell ⟨r, 1, none⟩ v) := fun v => (Keeps.refl (fun k => k = r) w5).setCell (p := ⟨r, 1, none⟩) (.inr rfl) v
  refine ⟨⟨?_, hrow.kept (k2 _) (fun g hg => ?_), (p4.kept hk1 (fun g hg => (h.ne2 hg).2.1)).kept (k2 _) (fun g hg => (h.ne2 hg).1), ?_, fun i b z hi => ?_, by simp; omega, h.most20, h.many, fun q hq => ?_, fun q hq => ?_⟩, fun q hq => ?_, ?_⟩
  · exact block_set (hk1.old b4 hn.1) 1 (.slice (some ⟨g1, 0, none⟩) (es.length + 1) cap1)
  · simp [Value.ownBlock] at hg
    omega
  · rw [List.map_append]
    exact (tab4.kept hk1 hO1).kept (k2 _) (fun q hq e => hOr (e ▸ hq))
  · rcases Nat.lt_or_ge i es.length with hlt | hge
    · rw [List.getElem?_append_left hlt] at hi
      have hm : b ∈ es.map Prod.fst := List.mem_map.2 ⟨(b, z), List.mem_of_getElem? hi, rfl⟩
      rw [upd_other _ _ (fun e => ha (by rw [← e]; exact hm))]
      exact h.place _ _ _ hi
    · rw [List.getElem?_append_right hge] at hi
      have hi0 : i - es.length = 0 := by
        have := (List.getElem?_eq_some_iff.1 hi).1
        simpa using this
      rw [hi0] at hi
      simp at hi
      obtain ⟨rfl, rfl⟩ := hi
      rw [upd_same, show i = es.length by omega]
  · obtain ⟨c, t, h1, h2⟩ := kd4 q hq
    exact ⟨c, t, (k2 _).old (hk1.old h1 (hO1 q hq)) (fun e => hOr (e ▸ hq)), h2⟩
  · rcases hOt q hq with hq | hq
    · exact h.pos q hq
    · omega
  · rcases hq with rfl | hq | hq | hq
    · exact .inl (.inl rfl)
    · simp [Value.ownBlock] at hq
      subst hq
      rcases hk with ⟨hk, _⟩ | ⟨e, hk⟩
      · exact .inr (by omega)
      · exact .inl (.inr (.inl e))
    · exact .inl (.inr (.inr (.inl hq)))
    · rcases hOt q hq with hq | hq
      · exact .inl (.inr (.inr (.inr hq)))
      · exact .inr hq
  · have q1 : Keeps (ROwn r v1 v2 Ot) w w4 := k4.mono (fun q _ e => .inr (.inr (.inr e)))
    have q2 : Keeps (ROwn r v1 v2 Ot) w4 w5 := hk1.mono (fun q _ e => .inr (.inl e))
    exact (q1.trans q2).setCell (p := ⟨r, 1, none⟩) (.inr (.inl rfl)) _
end

theorem wpList_append_run {P : Program} {w w' : World} {ops : Array Oper} {rest : List Oper} {o : Oper} {a : Act} {Q : Exit → Act → World → Prop} (hgd : o.guard = none) (s x : Operand) (t : TypeId)
    (ho : o.op = .call { callee := .builtin .append, args := #[s, x], argTypes := #[t, t] }) {v y v' : Value} (hs : a.eval s = v) (hx : a.eval x = y) (hr : (Builtin.append_ #[t, t] o.type #[v, y]).run P w = .ok v' w')
    (h : wpList P ops Q rest (a.put o.dst v') w') : wpList P ops Q (o :: rest) a w := by
  refine wpList_plain hgd fun K hK => ?_
  unfold Oper.wp
  simp [execOp, ho, resolve, invoke, builtin, hs, hx, hr, Result.andThen]
  exact hK _ _ h

set_option maxRecDepth 100000 in
set_option maxHeartbeats 400000 in
theorem redo_put_full (r most bt p : Nat) (es : List (Int × Int)) (pu : List Pt) (v1 v2 : Value) (K : List (Option Int)) (vf : Int → Value) (Ot : Nat → Prop) (a x : Int) (w : World) (h : RedoAt w r most es pu v1 v2 bt p K vf Ot) (hw : Tz w) (hi : ¬ idxE es a < es.length) (hm : most ≤ es.length) :
    Calls Tryd.prog 29 #[.pointer (some ⟨r, 0, none⟩), .int .u64 a, .int .u64 x] w fun e w' => e = .returned (.int .i64 5) ∧ Like w' w := by
  have ht := redo_there r bt w h.c2
  have c0 := h.c0
  have c1 := h.c1
  have c2 := h.c2
  have hg := h.missed hw a hi
  obtain ⟨a1, cap1, rfl, hcap, hmax⟩ := h.ents.form
  have hes : es.length ≤ 1048576 := Nat.le_trans h.fit h.most20
  have hm' : (es.length : Int) ≥ (most : Int) := by omega
  clear h hi
  go_enter Tryd.func29, Tryd.ntmps29
  go_wp2_with (first | (go_at_call 49; refine ht.mono ?_; rintro e w' ⟨rfl, hw'⟩; replace hw' := hw'.symm; subst hw') | (go_at_call 50; refine hg.mono ?_; rintro e w' ⟨rfl, hw'⟩; replace hw' := hw'.symm; subst hw'))
  go_quiet (fail)
  go_wp2_with fail
  go_ret
  exact ⟨rfl, ⟨rfl, rfl, rfl, rfl⟩⟩

theorem RedoAt.newer {w : World} {r most bt p : Nat} {es : List (Int × Int)} {pu : List Pt} {v1 v2 : Value} {K : List (Option Int)} {vf : Int → Value} {Ot : Nat → Prop} {a x : Int} (h : RedoAt w r most es pu v1 v2 bt p K vf Ot) (hm : es.length < most) (ha : a ∉ es.map Prod.fst) (hi : ¬ idxE es a < es.length) (hpu : pu.length < 4398046511104) :
    Hid (∀ w4, Keeps Ot w w4 → ∀ p' K' Ot', I.Holds w4 bt p' K' (es.map Prod.fst ++ [a]) (upd vf a (.int .i64 es.length)) Ot' → (∀ q, Ot' q → Ot q ∨ w.heap.size ≤ q) →
      w4.cell? ⟨r, 1, none⟩ = some v1 ∧ ∃ g1 cap1 w5, Hid ((Builtin.append_ #[23, 23] 23 #[v1, .slice (some ⟨w4.heap.size, 0, none⟩) 1 1]).run Tryd.prog (w4.alloc (.cells #[.int .u64 a, .int .u64 x] 44)) = .ok (.slice (some ⟨g1, 0, none⟩) (es.length + 1) cap1) w5) ∧
      w5.cell? ⟨r, 1, none⟩ = some v1 ∧ w5.frozen? ⟨r, 1, none⟩ = false ∧ w5.cell? ⟨r, 3, none⟩ = some v2 ∧
      ∃ g2 cap2 w6, Hid ((Builtin.append_ #[104, 104] 104 #[v2, .slice (some ⟨w5.heap.size, 0, none⟩) 1 1]).run Tryd.prog ((w5.setCell ⟨r, 1, none⟩ (.slice (some ⟨g1, 0, none⟩) (es.length + 1) cap1)).alloc (.cells #[.bool true, .int .i64 0, .int .u64 0] 110)) = .ok (.slice (some ⟨g2, 0, none⟩) (pu.length + 1) cap2) w6) ∧
      w6.cell? ⟨r, 3, none⟩ = some v2 ∧ w6.frozen? ⟨r, 3, none⟩ = false ∧
      Hid (∃ v1' v2' p' K' vf' Ot', RedoAt (w6.setCell ⟨r, 3, none⟩ (.slice (some ⟨g2, 0, none⟩) (pu.length + 1) cap2)) r most (putE es a x) (pu ++ [ptOf es a]) v1' v2' bt p' K' vf' Ot' ∧
        (∀ q, ROwn r v1' v2' Ot' q → ROwn r v1 v2 Ot q ∨ w.heap.size ≤ q) ∧ Keeps (ROwn r v1 v2 Ot) w (w6.setCell ⟨r, 3, none⟩ (.slice (some ⟨g2, 0, none⟩) (pu.length + 1) cap2)))) := by
  have hn := h.ner
  have hpt : ptOf es a = ⟨true, 0, 0⟩ := if_neg hi
  have hpe : putE es a x = es ++ [(a, x)] := if_neg hi
  have hes : es.length ≤ 1048576 := Nat.le_trans h.fit h.most20
  intro w4 k4 p' K' Ot' tab4 hOt
  have b4 := k4.old h.box hn.2.2
  have e4 := h.ents.kept k4 (fun g hg => (h.ne1 hg).2.2)
  refine ⟨cell_of_block b4 1, ?_⟩
  obtain ⟨g1, cap1, w5, hr1, hrow1, hk1⟩ := append_cell a x e4 (by omega)
  have hk1' : (w4.heap.size ≤ g1 ∧ Keeps (fun _ => False) w4 w5) ∨ (v1.ownBlock = some g1 ∧ Keeps (fun k => k = g1) w4 w5) := by
    rcases hk1 with q | ⟨q1, _, _, q2⟩
    · exact .inl q
    · exact .inr ⟨q1, q2⟩
  have kk1 : Keeps (fun k => v1.ownBlock = some k) w4 w5 := by
    rcases hk1' with ⟨_, hk⟩ | ⟨e, hk⟩
    · exact hk.mono (fun _ _ f => f.elim)
    · exact hk.mono (fun k _ f => by subst f; exact e)
  have b5 := kk1.old b4 hn.1
  obtain ⟨hA, hAo, hAk⟩ := h.came hm ha k4 tab4 hOt hrow1 hk1'
  refine ⟨g1, cap1, w5, hr1, cell_of_block b5 1, frozen_of_block b5 1, cell_of_block b5 3, ?_⟩
  obtain ⟨g2, cap2, w6, hr2, hrow2, hk2⟩ := append_put (ptOf es a) hA.puts hpu
  rw [hpt, World.size_setCell] at hr2
  obtain ⟨hB, hBo, hBk⟩ := hA.pushed hrow2 hk2 hpu
  have kk2 : Keeps (fun k => v2.ownBlock = some k) (w5.setCell ⟨r, 1, none⟩ (.slice (some ⟨g1, 0, none⟩) (es.length + 1) cap1)) w6 := by
    rcases hk2 with ⟨_, hk⟩ | ⟨e, hk⟩
    · exact hk.mono (fun _ _ f => f.elim)
    · exact hk.mono (fun k _ f => by subst f; exact e)
  have b6 := kk2.old hA.box hn.2.1
  refine ⟨g2, cap2, w6, hr2, cell_of_block b6 3, frozen_of_block b6 3, _, _, _, _, _, _, by rw [hpe]; exact hB, fun q hq => ?_, ?_⟩
  · have hs := hAk.size
    rcases hq with rfl | hq | hq | hq
    · exact .inl (.inl rfl)
    · exact hAo q (.inr (.inl hq))
    · rcases hBo q hq with hq | hq
      · exact .inl (.inr (.inr (.inl hq)))
      · exact .inr (by omega)
    · exact hAo q (.inr (.inr (.inr hq)))
  · exact hAk.step hBk (fun q hq e => by
      rcases hAo q e with e | e
      · exact e
      · omega)

set_option maxRecDepth 100000 in
set_option maxHeartbeats 1000000 in
theorem redo_put_new (r most bt p : Nat) (es : List (Int × Int)) (pu : List Pt) (v1 v2 : Value) (K : List (Option Int)) (vf : Int → Value) (Ot : Nat → Prop) (a x : Int) (w : World) (h : RedoAt w r most es pu v1 v2 bt p K vf Ot) (hw : Tz w) (hi : ¬ idxE es a < es.length) (hm : es.length < most) (hpu : pu.length < 4398046511104) :
    Calls Tryd.prog 29 #[.pointer (some ⟨r, 0, none⟩), .int .u64 a, .int .u64 x] w fun e w' => e = .returned (.int .i64 0) ∧ ∃ v1' v2' p' K' vf' Ot', RedoAt w' r most (putE es a x) (pu ++ [ptOf es a]) v1' v2' bt p' K' vf' Ot' ∧
      (∀ q, ROwn r v1' v2' Ot' q → ROwn r v1 v2 Ot q ∨ w.heap.size ≤ q) ∧ Keeps (ROwn r v1 v2 Ot) w w' := by
  have ht := redo_there r bt w h.c2
  have c0 := h.c0
  have c1 := h.c1
  have c2 := h.c2
  have c3 := h.c3
  have hg := h.missed hw a hi
  have hn := h.ner
  have ha : a ∉ es.map Prod.fst := fun hm => hi (idxE_mem.2 hm)
  have hes : es.length ≤ 1048576 := Nat.le_trans h.fit h.most20
  have hm' : ¬ ((es.length : Int) ≥ (most : Int)) := by omega
  have hput : ∀ W, Like W w → Calls Tryd.prog 51 #[.pointer (some ⟨bt, 0, none⟩), .int .u64 a, .int .i64 es.length] W fun e w4 => (∃ u, e = .returned u) ∧ (w4.cell? ⟨r, 2, none⟩ = some (.pointer (some ⟨bt, 0, none⟩)) ∧ w4.cell? ⟨r, 1, none⟩ = some v1) ∧
      Hid (Keeps Ot w w4 ∧ ∃ p' K' Ot', I.Holds w4 bt p' K' (es.map Prod.fst ++ [a]) (upd vf a (.int .i64 es.length)) Ot' ∧ ∀ q, Ot' q → Ot q ∨ w.heap.size ≤ q) := fun W hl => by
    refine (I.hold_put bt p K (es.map Prod.fst) vf Ot a es.length W (h.tab.like hl) (hl.tz hw) h.pos (by rw [List.length_map]; omega)).mono ?_
    rintro e w4 ⟨rfl, ⟨Ot', hT, hO⟩, hk⟩
    have hk' : Keeps Ot w w4 := ⟨hk.os.trans hl.os, hk.tape.trans hl.tape, hk.output.trans hl.output, by rw [← hl.heap]; exact hk.size, fun i hi hs => by rw [← hl.heap] at hi ⊢; exact hk.block i hi hs⟩
    have hb := hk'.old h.box hn.2.2
    refine ⟨⟨_, rfl⟩, ⟨cell_of_block hb 2, cell_of_block hb 1⟩, hk', _, _, Ot', by rw [putO, if_neg ha] at hT; exact hT, fun q hq => by rw [← hl.heap]; exact hO q hq⟩
  have hrest := h.newer (x := x) hm ha hi hpu
  obtain ⟨a1, cap0, hv1, hcap, hmax⟩ := h.ents.form
  have HV : Hid (v1 = .slice a1 es.length cap0) := hv1
  have hl1 : w.cell? ⟨r, 1, none⟩ = some (.slice a1 es.length cap0) := by rw [← hv1]; exact c1
  clear h hi ha hn hv1 c1 hw
  go_enter Tryd.func29, Tryd.ntmps29
  go_wp2_with (first | (go_at_call 49; refine ht.mono ?_; rintro e w' ⟨rfl, hw'⟩; replace hw' := hw'.symm; subst hw') | (go_at_call 50; refine hg.mono ?_; rintro e w' ⟨rfl, hw'⟩; replace hw' := hw'.symm; subst hw'))
  go_quiet (fail)
  go_wp2_with fail
  go_region_held3 (fun W => W.cell? ⟨r, 2, none⟩ = some (.pointer (some ⟨bt, 0, none⟩)) ∧ W.cell? ⟨r, 1, none⟩ = some (.slice a1 es.length cap0)) (first | assumption | go_keep) ((go_at_call 51; refine (hput _ (by exact ⟨rfl, rfl, rfl, rfl⟩)).mono ?_; rintro e w4 ⟨⟨u, rfl⟩, ⟨d2, d1⟩, hH⟩; rw [HV.out] at d1))
  obtain ⟨k4, p', K', Ot', tab4, hOt⟩ := hH.out
  obtain ⟨_, g1, cap1, w5, HR1, f1, f2, f3, g2, cap2, w6, HR2, f4, f5, hend⟩ := hrest.out w4 k4 p' K' Ot' tab4 hOt
  rw [HV.out] at HR1 f1
  clear hput hrest hH k4 tab4 hOt
  go_wp2_with (at_builtin; first | (refine wpList_append_run rfl _ _ 23 rfl rfl rfl HR1.out ?_; clear HR1) | (refine wpList_append_run rfl _ _ 104 rfl rfl rfl HR2.out ?_; clear HR2))
  go_ret
  exact ⟨rfl, hend.out⟩

set_option maxHeartbeats 400000 in
theorem redo_new (most : Nat) (hm : most ≤ 1048576) (w : World) (h0 : 0 < w.heap.size) :
    Calls Tryd.prog 47 #[.int .i64 most] w fun e w' => ∃ r v1 v2 bt p K vf Ot, e = .returned (.tuple #[.pointer (some ⟨r, 0, none⟩), .int .i64 0]) ∧ RedoAt w' r most [] [] v1 v2 bt p K vf Ot ∧ (∀ q, ROwn r v1 v2 Ot q → w.heap.size ≤ q) ∧ Keeps (fun _ => False) w w' := by
  have ht := mayTake_yes most w (by omega) (by omega)
  go_enter Tryd.func47, Tryd.ntmps47
  go_wp2_with (first | (go_at_call 66; refine ht.mono ?_; rintro e w' ⟨rfl, hw'⟩; replace hw' := hw'.symm; subst hw'))
  refine (I.hold_new (fun _ => .int .i64 0) w).mono ?_
  rintro e w2 ⟨rfl, ⟨Ot, hT, hO⟩, hk⟩
  have hb := alloc_block w2 (.cells #[.int .i64 most, .slice none 0 0, .pointer (some ⟨w.heap.size + 2, 0, none⟩), .slice none 0 0] 106 (0, 0))
  have hka : Keeps (fun _ => False) w2 (w2.alloc (.cells #[.int .i64 most, .slice none 0 0, .pointer (some ⟨w.heap.size + 2, 0, none⟩), .slice none 0 0] 106 (0, 0))) := (Keeps.refl _ w2).alloc _
  have hT2 := hT.kept hka (fun _ _ f => f)
  have hs := hk.size
  have hend : Hid (∃ v1 v2 bt p K vf Ot, RedoAt (w2.alloc (.cells #[.int .i64 most, .slice none 0 0, .pointer (some ⟨w.heap.size + 2, 0, none⟩), .slice none 0 0] 106 (0, 0))) w2.heap.size most [] [] v1 v2 bt p K vf Ot ∧ (∀ q, ROwn w2.heap.size v1 v2 Ot q → w.heap.size ≤ q) ∧ Keeps (fun _ => False) w (w2.alloc (.cells #[.int .i64 most, .slice none 0 0, .pointer (some ⟨w.heap.size + 2, 0, none⟩), .slice none 0 0] 106 (0, 0)))) := by
    refine ⟨.slice none 0 0, .slice none 0 0, w.heap.size + 2, _, _, _, Ot, ⟨hb, row_nil _ _ _, row_nil _ _ _, hT2, fun i a x hi => by simp at hi, by simp, hm, by simp, holds_kinds hT2, fun q hq => by have := hO q hq; omega⟩, ?_, hk.trans hka⟩
    rintro q (rfl | hq | hq | hq)
    · exact hs
    · simp [Value.ownBlock] at hq
    · simp [Value.ownBlock] at hq
    · exact hO q hq
  clear hb hka hT2 hT
  go_wp2_with fail
  go_ret2
  obtain ⟨v1, v2, bt, p, K, vf, Ot, q⟩ := hend.out
  exact ⟨_, v1, v2, bt, p, K, vf, Ot, rfl, q⟩
theorem redo_new_no (most : Int) (hm : most < 0 ∨ 1048576 < most) (w : World) :
    Calls Tryd.prog 47 #[.int .i64 most] w fun e w' => e = .returned (.tuple #[.pointer none, .int .i64 2]) ∧ w' = w := by
  have ht := mayTake_no most w hm
  go_enter Tryd.func47, Tryd.ntmps47
  go_wp2_with (first | (go_at_call 66; refine ht.mono ?_; rintro e w' ⟨rfl, hw'⟩; replace hw' := hw'.symm; subst hw'))
  go_ret2
  exact ⟨rfl, rfl⟩
end Go.Proofs.YtmhinalgjfiliaaDoor
