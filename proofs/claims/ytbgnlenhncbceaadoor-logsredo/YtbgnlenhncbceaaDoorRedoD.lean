
/-
  A Put is taken back. No statement of the seat is proved here.
-/
import Derived.Test.YtbgnlenhncbceaaDoorRedoC
namespace Go.Proofs.YtbgnlenhncbceaaDoor
open Go.RowKit Go.Shelf

/-- The blocks of a redo log but those of the Puts. -/
def TOwn (r : Nat) (v1 : Value) (Ot : Nat → Prop) (q : Nat) : Prop := q = r ∨ v1.ownBlock = some q ∨ Ot q
theorem TOwn.own {r : Nat} {v1 v2 : Value} {Ot : Nat → Prop} {q : Nat} (h : TOwn r v1 Ot q) : ROwn r v1 v2 Ot q := by
  rcases h with h | h | h
  · exact .inl h
  · exact .inr (.inl h)
  · exact .inr (.inr (.inr h))

section
variable {w w4 : World} {r most bt p : Nat} {es : List (Int × Int)} {pu : List Pt} {v1 v2 : Value} {K K' : List (Option Int)} {vf : Int → Value} {Ot Ot' : Nat → Prop}
theorem filter_last {l : List Int} {k : Int} (hd : (l ++ [k]).Nodup) : (l ++ [k]).filter (fun q => decide (q ≠ k)) = l := by
  rw [List.filter_append]
  have h1 : l.filter (fun q => decide (q ≠ k)) = l := by
    rw [List.filter_eq_self]
    intro q hq
    have := (List.nodup_append.1 hd).2.2 q hq k (by simp)
    simpa using this
  rw [h1]
  simp
/-- The last entry is cut off. -/
theorem RedoAt.cutoff (h : RedoAt w r most es pu v1 v2 bt p K vf Ot) {a x : Int} {es' : List (Int × Int)} (he : es = es' ++ [(a, x)]) (k4 : Keeps Ot w w4) (tab4 : I.Holds w4 bt p K' ((es.map Prod.fst).filter (fun q => decide (q ≠ a))) vf Ot') (hOt : ∀ q, Ot' q → Ot q)
    {g cap : Nat} (hv : v1 = .slice (some ⟨g, 0, none⟩) es.length cap) :
    RedoAt (w4.setCell ⟨r, 1, none⟩ (.slice (some ⟨g, 0, none⟩) es'.length cap)) r most es' pu (.slice (some ⟨g, 0, none⟩) es'.length cap) v2 bt p K' vf Ot' ∧
      (∀ q, ROwn r (.slice (some ⟨g, 0, none⟩) es'.length cap) v2 Ot' q → ROwn r v1 v2 Ot q) ∧ Keeps (TOwn r v1 Ot) w (w4.setCell ⟨r, 1, none⟩ (.slice (some ⟨g, 0, none⟩) es'.length cap)) := by
  have hn := h.ner
  have hv1 : v1.ownBlock = some g := by rw [hv]; rfl
  have hg := h.ne1 hv1
  have b4 := k4.old h.box hn.2.2
  have e4 := h.ents.kept k4 (fun g hg => (h.ne1 hg).2.2)
  have hle : es'.length ≤ cap := by
    obtain ⟨_, c, q1, q2, _⟩ := h.ents.form
    rw [hv] at q1
    injection q1 with _ _ q3
    subst q3
    have : es.length = es'.length + 1 := by rw [he]; simp
    omega
  have hcut := e4.cut (m := es'.length) (c := cap) (by rw [he]; simp) (some ⟨g, 0, none⟩) cap hv ⟨hle, Nat.le_refl _⟩
  rw [entV_take, he, List.take_left] at hcut
  have k2 : ∀ v, Keeps (fun k => k = r) w4 (w4.setCell ⟨r, 1, none⟩ v) := fun v => (Keeps.refl (fun k => k = r) w4).setCell (p := ⟨r, 1, none⟩) (.inr rfl) v
  have hkeys : (es.map Prod.fst).filter (fun q => decide (q ≠ a)) = es'.map Prod.fst := by
    have hd : (es.map Prod.fst).Nodup := by
      obtain ⟨s, e0, bf, hG, _⟩ := h.tab
      exact hG.tab.nd
    rw [he, List.map_append] at hd ⊢
    exact filter_last hd
  rw [hkeys] at tab4
  refine ⟨⟨?_, hcut.kept (k2 _) (fun q hq => ?_), (h.puts.kept k4 (fun q hq => (h.ne2 hq).2.2)).kept (k2 _) (fun q hq => (h.ne2 hq).1), tab4.kept (k2 _) (fun q hq e => hn.2.2 (e ▸ hOt q hq)), fun i b z hi => ?_, ?_, h.most20, h.many, ?_, fun q hq => h.pos q (hOt q hq)⟩, ?_, ?_⟩
  · exact block_set b4 1 _
  · simp [Value.ownBlock] at hq
    rw [← hq]
    exact hg.1
  · refine h.place i b z ?_
    rw [he, List.getElem?_append_left (List.getElem?_eq_some_iff.1 hi).1]
    exact hi
  · have := h.fit
    rw [he] at this
    simp at this
    omega
  · exact holds_kinds (tab4.kept (k2 _) (fun q hq e => hn.2.2 (e ▸ hOt q hq)))
  · rintro q (rfl | hq | hq | hq)
    · exact .inl rfl
    · simp [Value.ownBlock] at hq
      subst hq
      exact .inr (.inl hv1)
    · exact .inr (.inr (.inl hq))
    · exact .inr (.inr (.inr (hOt q hq)))
  · exact (k4.mono (T := TOwn r v1 Ot) (fun q _ e => .inr (.inr e))).setCell (p := ⟨r, 1, none⟩) (.inr (.inl rfl)) _
end

set_option maxRecDepth 100000 in
set_option maxHeartbeats 400000 in
theorem takeBack_word (r most bt p : Nat) (es : List (Int × Int)) (pu : List Pt) (v1 v2 : Value) (K : List (Option Int)) (vf : Int → Value) (Ot : Nat → Prop) (j : Nat) (a x y : Int) (w : World) (h : RedoAt w r most es pu v1 v2 bt p K vf Ot) (hj : es[j]? = some (a, x)) :
    Calls Tryd.prog 56 #[.pointer (some ⟨r, 0, none⟩), .agg #[.bool false, .int .i64 j, .int .u64 y]] w fun e w' => (∃ v, e = .returned v) ∧ RedoAt w' r most (es.set j (a, y)) pu v1 v2 bt p K vf Ot ∧ Keeps (TOwn r v1 Ot) w w' := by
  obtain ⟨g, cap, hv1, hcap, hmax, e1, e2, e3⟩ := h.entry hj
  have hjl : j < es.length := (List.getElem?_eq_some_iff.1 hj).1
  have hes : es.length ≤ 1048576 := Nat.le_trans h.fit h.most20
  have hv1b : v1.ownBlock = some g := by rw [hv1]; rfl
  have hka : Keeps (fun _ => False) w (w.alloc (.cells #[.bool false, .int .i64 j, .int .u64 y] 89)) := (Keeps.refl _ w).alloc _
  have hA := (h.kept hka (fun _ _ f => f)).worded (y := y) hj hv1b
  have hend : Hid (RedoAt ((w.alloc (.cells #[.bool false, .int .i64 j, .int .u64 y] 89)).setCell ⟨g, j * 2 + 1, none⟩ (.int .u64 y)) r most (es.set j (a, y)) pu v1 v2 bt p K vf Ot ∧ Keeps (TOwn r v1 Ot) w ((w.alloc (.cells #[.bool false, .int .i64 j, .int .u64 y] 89)).setCell ⟨g, j * 2 + 1, none⟩ (.int .u64 y))) :=
    ⟨hA, (hka.mono (T := TOwn r v1 Ot) (fun _ _ f => f.elim)).setCell (p := ⟨g, j * 2 + 1, none⟩) (.inr (.inr (.inl hv1b))) _⟩
  have hgr : r ≠ g := fun e => (h.ne1 hv1b).1 e.symm
  have hgl : g < w.heap.size := h.ents.lt hv1b
  have hgw : w.heap.size ≠ g := by omega
  have hrl : r < w.heap.size := lt_of_block h.box
  have hb := alloc_block w (.cells #[.bool false, .int .i64 j, .int .u64 y] 89)
  have s1 : (w.alloc (.cells #[.bool false, .int .i64 j, .int .u64 y] 89)).cell? ⟨r, 1, none⟩ = some (.slice (some ⟨g, 0, none⟩) es.length cap) := by rw [← hv1]; exact cell_of_block (alloc_old h.box _) 1
  have s2 : (w.alloc (.cells #[.bool false, .int .i64 j, .int .u64 y] 89)).cell? ⟨w.heap.size, 1, none⟩ = some (.int .i64 j) := cell_of_block hb 1
  have s3 : (w.alloc (.cells #[.bool false, .int .i64 j, .int .u64 y] 89)).cell? ⟨w.heap.size, 2, none⟩ = some (.int .u64 y) := cell_of_block hb 2
  have s0 : (w.alloc (.cells #[.bool false, .int .i64 j, .int .u64 y] 89)).cell? ⟨w.heap.size, 0, none⟩ = some (.bool false) := cell_of_block hb 0
  have s4 : (w.alloc (.cells #[.bool false, .int .i64 j, .int .u64 y] 89)).cell? ⟨g, j * 2 + 1, none⟩ = some (.int .u64 x) := (World.cell?_alloc_lt w _ ⟨g, j * 2 + 1, none⟩ hgl).trans e2
  have s5 : (w.alloc (.cells #[.bool false, .int .i64 j, .int .u64 y] 89)).frozen? ⟨g, j * 2 + 1, none⟩ = false := by
    have := (h.kept hka (fun _ _ f => f)).entry hj
    obtain ⟨g', _, q1, _, _, _, _, q2⟩ := this
    rw [hv1] at q1
    injection q1 with q1
    injection q1 with q1
    injection q1 with q1
    rw [q1]
    exact q2 _
  have t1 : ((w.alloc (.cells #[.bool false, .int .i64 j, .int .u64 y] 89)).setCell ⟨g, j * 2 + 1, none⟩ (.int .u64 y)).cell? ⟨r, 1, none⟩ = some (.slice (some ⟨g, 0, none⟩) es.length cap) := (World.cell?_setCell_far _ ⟨g, j * 2 + 1, none⟩ ⟨r, 1, none⟩ _ (Ne.symm hgr)).trans s1
  have t2 : ((w.alloc (.cells #[.bool false, .int .i64 j, .int .u64 y] 89)).setCell ⟨g, j * 2 + 1, none⟩ (.int .u64 y)).cell? ⟨w.heap.size, 1, none⟩ = some (.int .i64 j) := (World.cell?_setCell_far _ ⟨g, j * 2 + 1, none⟩ ⟨w.heap.size, 1, none⟩ _ (Ne.symm hgw)).trans s2
  have t3 : ((w.alloc (.cells #[.bool false, .int .i64 j, .int .u64 y] 89)).setCell ⟨g, j * 2 + 1, none⟩ (.int .u64 y)).cell? ⟨w.heap.size, 2, none⟩ = some (.int .u64 y) := (World.cell?_setCell_far _ ⟨g, j * 2 + 1, none⟩ ⟨w.heap.size, 2, none⟩ _ (Ne.symm hgw)).trans s3
  clear h hA hka hj e3 hb e1 e2
  go_enter Tryd.func56, Tryd.ntmps56
  go_wp2_with fail
  generalize w.alloc (.cells #[.bool false, .int .i64 j, .int .u64 y] 89) = W0 at *
  go_region_held3 (fun W => W.cell? ⟨r, 1, none⟩ = some (.slice (some ⟨g, 0, none⟩) es.length cap) ∧ W.cell? ⟨w.heap.size, 1, none⟩ = some (.int .i64 j) ∧ W.cell? ⟨w.heap.size, 2, none⟩ = some (.int .u64 y)) (first | (exact ⟨s1, s2, s3⟩) | (exact ⟨t1, t2, t3⟩) | go_keep) (fail)
  go_wp2_with fail
  refine bodyPost_ret (results_none rfl _ _ _) rfl ?_
  exact ⟨⟨_, rfl⟩, hend.out.1.like (by exact ⟨rfl, rfl, rfl, rfl⟩), Like.keeps (by exact ⟨rfl, rfl, rfl, rfl⟩) hend.out.2⟩

set_option maxRecDepth 100000 in
set_option maxHeartbeats 400000 in
theorem takeBack_came (r most bt p : Nat) (es es' : List (Int × Int)) (pu : List Pt) (v1 v2 : Value) (K : List (Option Int)) (vf : Int → Value) (Ot : Nat → Prop) (a x : Int) (w : World) (h : RedoAt w r most es pu v1 v2 bt p K vf Ot) (hw : Tz w) (he : es = es' ++ [(a, x)]) :
    Calls Tryd.prog 56 #[.pointer (some ⟨r, 0, none⟩), .agg #[.bool true, .int .i64 0, .int .u64 0]] w fun e w' => (∃ v, e = .returned v) ∧ ∃ v1' K' Ot', RedoAt w' r most es' pu v1' v2 bt p K' vf Ot' ∧ (∀ q, ROwn r v1' v2 Ot' q → ROwn r v1 v2 Ot q) ∧ Keeps (TOwn r v1 Ot) w w' := by
  have hj : es[es'.length]? = some (a, x) := by rw [he]; simp
  obtain ⟨g, cap, hv1, hcap, hmax, e1, e2, e3⟩ := h.entry hj
  have hl0 : es.length = es'.length + 1 := by rw [he]; simp
  have hes : es.length ≤ 1048576 := Nat.le_trans h.fit h.most20
  have hn := h.ner
  have hv1b : v1.ownBlock = some g := by rw [hv1]; rfl
  have hka : Keeps (fun _ => False) w (w.alloc (.cells #[.bool true, .int .i64 0, .int .u64 0] 89)) := (Keeps.refl _ w).alloc _
  have hA := h.kept hka (fun _ _ f => f)
  have hwA := hw.keeps hka (fun f => f)
  have hb := alloc_block w (.cells #[.bool true, .int .i64 0, .int .u64 0] 89)
  have s0 : (w.alloc (.cells #[.bool true, .int .i64 0, .int .u64 0] 89)).cell? ⟨w.heap.size, 0, none⟩ = some (.bool true) := cell_of_block hb 0
  generalize hW : w.alloc (.cells #[.bool true, .int .i64 0, .int .u64 0] 89) = W0 at *
  have hgne := (h.ne1 hv1b)
  have htake : ∀ W, Like W W0 → Calls Tryd.prog 67 #[.pointer (some ⟨bt, 0, none⟩), .int .u64 a] W fun e w4 => (∃ u, e = .returned u) ∧ (w4.cell? ⟨r, 2, none⟩ = some (.pointer (some ⟨bt, 0, none⟩)) ∧ w4.cell? ⟨r, 1, none⟩ = some (.slice (some ⟨g, 0, none⟩) (es'.length + 1) cap) ∧ w4.cell? ⟨g, es'.length * 2, none⟩ = some (.int .u64 a)) ∧ w4.frozen? ⟨r, 1, none⟩ = false ∧
      Hid (∃ v1' K' Ot', RedoAt (w4.setCell ⟨r, 1, none⟩ (.slice (some ⟨g, 0, none⟩) es'.length cap)) r most es' pu v1' v2 bt p K' vf Ot' ∧ (∀ q, ROwn r v1' v2 Ot' q → ROwn r v1 v2 Ot q) ∧ Keeps (TOwn r v1 Ot) w (w4.setCell ⟨r, 1, none⟩ (.slice (some ⟨g, 0, none⟩) es'.length cap))) := fun W hl => by
    refine (I.hold_take bt p K (es.map Prod.fst) vf Ot a W (hA.tab.like hl) (hl.tz hwA) h.pos).mono ?_
    rintro e w4 ⟨rfl, ⟨Ot', hT, hO⟩, hk⟩
    have hk' : Keeps Ot W0 w4 := ⟨hk.os.trans hl.os, hk.tape.trans hl.tape, hk.output.trans hl.output, by rw [← hl.heap]; exact hk.size, fun i hi hs => by rw [← hl.heap] at hi ⊢; exact hk.block i hi hs⟩
    have hb4 := hk'.old hA.box hn.2.2
    obtain ⟨_, _, q1, _, _, q2, _⟩ := (RedoAt.entry hA hj)
    rw [hv1] at q1
    injection q1 with q1
    injection q1 with q1
    injection q1 with q1
    subst q1
    have hg4 := hk'.block g (hA.ents.lt hv1b) hgne.2.2
    obtain ⟨hC, hCo, hCk⟩ := hA.cutoff he hk' hT hO hv1
    refine ⟨⟨_, rfl⟩, ⟨cell_of_block hb4 2, ?_, ?_⟩, frozen_of_block hb4 1, _, _, _, hC, hCo, ?_⟩
    · rw [← hl0, ← hv1]
      exact cell_of_block hb4 1
    · rw [← q2]
      exact World.cell?_of_block hg4
    · exact (hka.mono (T := TOwn r v1 Ot) (fun _ _ f => f.elim)).trans hCk
  have c1 : W0.cell? ⟨r, 1, none⟩ = some (.slice (some ⟨g, 0, none⟩) (es'.length + 1) cap) := by rw [← hl0, ← hv1]; exact hA.c1
  have c2 := hA.c2
  have c3 : W0.cell? ⟨g, es'.length * 2, none⟩ = some (.int .u64 a) := by
    rw [← e1]
    exact World.cell?_of_block (hka.block g (h.ents.lt hv1b) (fun f => f))
  rw [hl0] at hes hcap
  have hc0 : (cap : Int) ≠ 0 := by omega
  have hl1 : (es'.length : Int) < ((es'.length + 1 : Nat) : Int) := by omega
  have hl2 : (0 : Int) ≤ (es'.length : Int) := by omega
  have hl3 : (es'.length : Int) < (es'.length : Int) + 1 := by omega
  clear h hA hwA hka hj e3 hb e1 e2 hn hgne hl0 he hv1 hv1b hw
  go_enter Tryd.func56, Tryd.ntmps56
  go_wp2_with fail
  go_region_held3 (fun W => W.cell? ⟨r, 2, none⟩ = some (.pointer (some ⟨bt, 0, none⟩)) ∧ W.cell? ⟨r, 1, none⟩ = some (.slice (some ⟨g, 0, none⟩) (es'.length + 1) cap) ∧ W.cell? ⟨g, es'.length * 2, none⟩ = some (.int .u64 a)) (first | assumption | (exact ⟨c2, c1, c3⟩) | go_keep) ((go_at_call 67; refine (htake _ (by exact ⟨rfl, rfl, rfl, rfl⟩)).mono ?_; rintro e w4 ⟨⟨u, rfl⟩, hS4, hf4, hH⟩))
  obtain ⟨d2, d1, d3⟩ := hS4
  clear c1 c2 c3 htake
  go_wp2_with fail
  go_end0
  exact ⟨⟨_, rfl⟩, hH.out⟩
end Go.Proofs.YtbgnlenhncbceaaDoor
