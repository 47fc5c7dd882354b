/-
  No statement of the seat is proved here. (Several texts in one: RedoD, RedoE, RedoF, RedoG.)
-/
import Derived.Test.YtmhinalgjfiliaaDoorRedoC
import Derived.Test.YtmhinalgjfiliaaDoorLoop3
import Derived.Test.YtmhinalgjfiliaaDoorLoop4
import Derived.Laws.ResultCell

/-
  A Put is taken back. No statement of the seat is proved here.
-/
namespace Go.Proofs.YtmhinalgjfiliaaDoor
open Go.RowKit Go.Shelf

/-- The blocks of a redo log but those of the Puts. -/
def TOwn (r : Nat) (v1 : Value) (Ot : Nat → Prop) (q : Nat) : Prop := q = r ∨ v1.ownBlock = some q ∨ Ot q
theorem TOwn.own {r : Nat} {v1 v2 : Value} {Ot : Nat → Prop} {q : Nat} (h : TOwn r v1 Ot q) : ROwn r v1 v2 Ot q := by
  rcases h with h | h | h
  · exact .inl h
  · exact .inr (.inl h)
  · exact .inr (.inr (.inr h))

section
variable {w w4 : World} {r most bt p : Nat} {es : List (Int × Int)} {pu : List Pt} {v1 v2 : Value} {K K' : List (Option Int)} {vf : Int → Value} {Ot Ot' : Nat → Prop}
theorem filter_last {l : List Int} {k : Int} (hd : (l ++ [k]).Nodup) : (l ++ [k]).filter (fun q => decide (q ≠ k)) = l := by
  rw [List.filter_append]
  have h1 : l.filter (fun q => decide (q ≠ k)) = l := by
    rw [List.filter_eq_self]
    intro q hq
    have := (List.nodup_append.1 hd).2.2 q hq k (by simp)
    simpa using this
  rw [h1]
  simp
/-- The last entry is cut off. -/
theorem RedoAt.cutoff (h : RedoAt w r most es pu v1 v2 bt p K vf Ot) {a x : Int} {es' : List (Int × Int)} (he : es = es' ++ [(a, x)]) (k4 : Keeps Ot w w4) (tab4 : I.Holds w4 bt p K' ((es.map Prod.fst).filter (fun q => decide (q ≠ a))) vf Ot') (hOt : ∀ q, Ot' q → Ot q)
    {g cap : Nat} (hv : v1 = .slice (some ⟨g, 0, none⟩) es.length cap) :
    RedoAt (w4.setCell ⟨r, 1, none⟩ (.slice (some ⟨g, 0, none⟩) es'.length cap)) r most es' pu (.slice (some ⟨g, 0, none⟩) es'.length cap) v2 bt p K' vf Ot' ∧
      (∀ q, ROwn r (.slice (some ⟨g, 0, none⟩) es'.length cap) v2 Ot' q → ROwn r v1 v2 Ot q) ∧ Keeps (TOwn r v1 Ot) w (w4.setCell ⟨r, 1, none⟩ (.slice (some ⟨g, 0, none⟩) es'.length cap)) := by
  have hn := h.ner
  have hv1 : v1.ownBlock = some g := by rw [hv]; rfl
  have hg := h.ne1 hv1
  have b4 := k4.old h.box hn.2.2
  have e4 := h.ents.kept k4 (fun g hg => (h.ne1 hg).2.2)
  have hle : es'.length ≤ cap := by
    obtain ⟨_, c, q1, q2, _⟩ := h.ents.form
    rw [hv] at q1
    injection q1 with _ _ q3
    subst q3
    have : es.length = es'.length + 1 := by rw [he]; simp
    omega
  have hcut := e4.cut (m := es'.length) (c := cap) (by rw [he]; simp) (some ⟨g, 0, none⟩) cap hv ⟨hle, Nat.le_refl _⟩
  rw [entV_take, he, List.take_left] at hcut
  have k2 : ∀ v, Keeps (fun k => k = r) w4 (w4.setCell ⟨r, 1, none⟩ v) := fun v => (Keeps.refl (fun k => k = r) w4).setCell (p := ⟨r, 1, none⟩) (.inr rfl) v
  have hkeys : (es.map Prod.fst).filter (fun q => decide (q ≠ a)) = es'.map Prod.fst := by
    have hd : (es.map Prod.fst).Nodup := by
      obtain ⟨s, e0, bf, hG, _⟩ := h.tab
      exact hG.tab.nd
    rw [he, List.map_append] at hd ⊢
    exact filter_last hd
  rw [hkeys] at tab4
  refine ⟨⟨?_, hcut.kept (k2 _) (fun q hq => ?_), (h.puts.kept k4 (fun q hq => (h.ne2 hq).2.2)).kept (k2 _) (fun q hq => (h.ne2 hq).1), tab4.kept (k2 _) (fun q hq e => hn.2.2 (e ▸ hOt q hq)), fun i b z hi => ?_, ?_, h.most20, h.many, ?_, fun q hq => h.pos q (hOt q hq)⟩, ?_, ?_⟩
  · exact block_set b4 1 _
  · simp [Value.ownBlock] at hq
    rw [← hq]
    exact hg.1
  · refine h.place i b z ?_
    rw [he, List.getElem?_append_left (List.getElem?_eq_some_iff.1 hi).1]
    exact hi
  · have := h.fit
    rw [he] at this
    simp at this
    omega
  · exact holds_kinds (tab4.kept (k2 _) (fun q hq e => hn.2.2 (e ▸ hOt q hq)))
  · rintro q (rfl | hq | hq | hq)
    · exact .inl rfl
    · simp [Value.ownBlock] at hq
      subst hq
      exact .inr (.inl hv1)
    · exact .inr (.inr (.inl hq))
    · exact .inr (.inr (.inr (hOt q hq)))
  · exact (k4.mono (T := TOwn r v1 Ot) (fun q _ e => .inr (.inr e))).setCell (p := ⟨r, 1, none⟩) (.inr (.inl rfl)) _
end

end Go.Proofs.YtmhinalgjfiliaaDoor


/-
  The way back of a redo log: the library's walk over the Puts, the last one first. No statement of the seat is proved here.
-/
namespace Go.Proofs.YtmhinalgjfiliaaDoor
open Go.RowKit Go.Shelf
attribute [local go_sem] Oper.semAt_some

/-- What was kept of a Put, as a value. -/
def ptV (x : Pt) : Value := .agg #[.bool x.came, .int .i64 x.place, .int .u64 x.word]

/-- The Puts that are walked over: the walk's own variable, and their cells. -/
structure BackAt (W : World) (bx : Nat) (a : Option Addr) (m c : Nat) (U : Nat → Pt) : Prop where
  box : W.heap[bx]? = some (.cells #[.slice a m c] 104 (0, 0))
  cell : ∀ i, i < m → ∃ g off cc fr, a = some ⟨g, off, none⟩ ∧ W.heap[g]? = some (.cells cc 110 fr) ∧ cc[off + i * 3]? = some (.bool (U i).came) ∧ cc[off + i * 3 + 1]? = some (.int .i64 (U i).place) ∧ cc[off + i * 3 + 2]? = some (.int .u64 (U i).word)
/-- The blocks of the walk. -/
def BackOn (bx : Nat) (a : Option Addr) (k : Nat) : Prop := k = bx ∨ ∃ off, a = some ⟨k, off, none⟩
theorem BackAt.kept {W W' : World} {bx : Nat} {a : Option Addr} {m c : Nat} {U : Nat → Pt} (h : BackAt W bx a m c U) (k : KeptOn (BackOn bx a) W W') : BackAt W' bx a m c U :=
  ⟨k.block _ _ _ _ (.inl rfl) h.box, fun i hi => by
    obtain ⟨g, off, cc, fr, h1, h2, h3⟩ := h.cell i hi
    exact ⟨g, off, cc, fr, h1, k.block _ _ _ _ (.inr ⟨off, h1⟩) h2, h3⟩⟩
theorem BackAt.below {W W' : World} {bx : Nat} {a : Option Addr} {m c : Nat} {U : Nat → Pt} (h : BackAt W bx a m c U) (k : Below W.heap.size W W') : BackAt W' bx a m c U :=
  ⟨(k.block _ (lt_of_block h.box)).trans h.box, fun i hi => by
    obtain ⟨g, off, cc, fr, h1, h2, h3⟩ := h.cell i hi
    exact ⟨g, off, cc, fr, h1, (k.block _ (lt_of_block h2)).trans h2, h3⟩⟩

end Go.Proofs.YtmhinalgjfiliaaDoor


/-
  Back on a redo log. No statement of the seat is proved here.
-/
namespace Go.Proofs.YtmhinalgjfiliaaDoor
open Go.RowKit Go.Shelf
attribute [local go_sem] Oper.semAt_some

section
variable {w w' : World} {r most bt p : Nat} {es : List (Int × Int)} {pu : List Pt} {v1 v2 : Value} {K : List (Option Int)} {vf : Int → Value} {Ot : Nat → Prop}
theorem RedoAt.cells (h : RedoAt w r most es pu v1 v2 bt p K vf Ot) {q : Nat} (hq : ROwn r v1 v2 Ot q) : ∃ c t fr, w.heap[q]? = some (.cells c t fr) := by
  rcases hq with rfl | hq | hq | hq
  · exact ⟨_, _, _, h.box⟩
  · obtain ⟨c, hc⟩ := h.ents.kind hq
    exact ⟨_, _, _, hc⟩
  · obtain ⟨c, hc⟩ := h.puts.kind hq
    exact ⟨_, _, _, hc⟩
  · obtain ⟨c, t, hc, _⟩ := h.kinds q hq
    exact ⟨_, _, _, hc⟩
/-- What is no cells may be turned. -/
theorem RedoAt.grown (h : RedoAt w r most es pu v1 v2 bt p K vf Ot) {row : Option Nat} (hg : w.grownBy w' row) (hr : ∀ r, row = some r → ∃ o : Obj, w.heap[r]? = some o ∧ o.isCells = false) : RedoAt w' r most es pu v1 v2 bt p K vf Ot :=
  h.kept (keeps_grown hg) (fun q hq e => by
    obtain ⟨o, h1, h2⟩ := hr q e
    obtain ⟨c, t, fr, h3⟩ := h.cells hq
    rw [h3] at h1
    cases h1
    cases h2)
/-- The Puts are cut. -/
theorem RedoAt.unput (h : RedoAt w r most es pu v1 v2 bt p K vf Ot) {a : Option Addr} {c m : Nat} (hv : v2 = .slice a pu.length c) (hm : m ≤ pu.length) :
    RedoAt (w.setCell ⟨r, 3, none⟩ (.slice a m c)) r most es (pu.take m) v1 (.slice a m c) bt p K vf Ot ∧ (∀ q, ROwn r v1 (.slice a m c) Ot q → ROwn r v1 v2 Ot q) ∧ Keeps (ROwn r v1 v2 Ot) w (w.setCell ⟨r, 3, none⟩ (.slice a m c)) := by
  have hn := h.ner
  have hob : (Value.slice a m c).ownBlock = v2.ownBlock := by rw [hv]; cases a <;> rfl
  have hle : m ≤ c := by
    obtain ⟨_, c', q1, q2, _⟩ := h.puts.form
    rw [hv] at q1
    injection q1 with _ _ q3
    subst q3
    omega
  have hcut := h.puts.cut (m := m) (c := c) hm a c hv ⟨hle, Nat.le_refl _⟩
  rw [putV_take] at hcut
  have hlen : (pu.take m).length = m := by rw [List.length_take]; omega
  have k2 : Keeps (fun k => k = r) w (w.setCell ⟨r, 3, none⟩ (.slice a m c)) := (Keeps.refl (fun k => k = r) w).setCell (p := ⟨r, 3, none⟩) (.inr rfl) _
  refine ⟨⟨block_set h.box 3 _, h.ents.kept k2 (fun q hq => (h.ne1 hq).1), by rw [hlen]; exact hcut.kept k2 (fun q hq => (h.ne2 (hob ▸ hq)).1), h.tab.kept k2 (fun q hq e => hn.2.2 (e ▸ hq)), h.place, h.fit, h.most20, by have := h.many; omega, fun q hq => ?_, h.pos⟩, ?_, ?_⟩
  · obtain ⟨cc, t, h1, h2⟩ := h.kinds q hq
    exact ⟨cc, t, k2.old h1 (fun e => hn.2.2 (e ▸ hq)), h2⟩
  · rintro q (rfl | hq | hq | hq)
    · exact .inl rfl
    · exact .inr (.inl hq)
    · exact .inr (.inr (.inl (hob ▸ hq)))
    · exact .inr (.inr (.inr hq))
  · exact (Keeps.refl (ROwn r v1 v2 Ot) w).setCell (p := ⟨r, 3, none⟩) (.inr (.inl rfl)) _
end

/-- s[m:] of the Puts. -/
theorem run_from (W : World) (a : Option Addr) (n c m : Nat) (hm : m ≤ n) : (Instr.slice 104 (.slice a n c) (some (.int .i64 m)) none none).run Tryd.prog W = .ok (.slice (if c = m then a else a.map (·.add (m * 3))) (n - m) (c - m)) W := by
  obtain ⟨i0, hi, hz0, hz1, hzb⟩ := info_parts info_put
  have h1 : (m : Int) ≤ (n : Int) := by omega
  simp [Instr.slice, run_underlying Tryd.underlying104, Instr.sliceBounds, run_sliceBound, sizeOf, typeInfo, hi, hz1, h1]

/-- s[:m] of the Puts. -/
theorem run_upto (W : World) (a : Option Addr) (n c m : Nat) (hm : m ≤ c) : (Instr.slice 104 (.slice a n c) none (some (.int .i64 m)) none).run Tryd.prog W = .ok (.slice a m c) W := by
  obtain ⟨i0, hi, hz0, hz1, hzb⟩ := info_parts info_put
  have h1 : (m : Int) ≤ (c : Int) := by omega
  have h2 : a.map (·.add 0) = a := by
    cases a with
    | none => rfl
    | some x => simp [Addr.add]
  simp [Instr.slice, run_underlying Tryd.underlying104, Instr.sliceBounds, run_sliceBound, sizeOf, typeInfo, hi, h1, h2]
/-- The Puts from a mark on, as the walk back has them. -/
theorem RedoAt.back_at {w : World} {r most bt p : Nat} {es : List (Int × Int)} {pu : List Pt} {v1 v2 : Value} {K : List (Option Int)} {vf : Int → Value} {Ot : Nat → Prop} (h : RedoAt w r most es pu v1 v2 bt p K vf Ot) {a : Option Addr} {c m : Nat} (hv : v2 = .slice a pu.length c) (hm : m ≤ pu.length) {W : World} (hk : Keeps (fun _ => False) w W)
    {bx c' : Nat} (hb : W.heap[bx]? = some (.cells #[.slice (if c = m then a else a.map (·.add (m * 3))) (pu.length - m) c'] 104 (0, 0))) :
    BackAt W bx (if c = m then a else a.map (·.add (m * 3))) (pu.length - m) c' (fun i => pu[m + i]?.getD ⟨false, 0, 0⟩) := by
  refine ⟨hb, fun i hi => ?_⟩
  have hle : pu.length ≤ c := by
    obtain ⟨_, c', q1, q2, _⟩ := h.puts.form
    rw [hv] at q1
    injection q1 with _ _ q3
    subst q3
    omega
  rcases h.puts.2 with ⟨q1, q2⟩ | ⟨g, cap, cur, q1, q2, q3, q4, q5, q6⟩
  · omega
  · rw [hv] at q1
    injection q1 with q1 _ q7
    subst q1 q7
    have hmi : m + i < pu.length := by omega
    have hget := putV_get pu (m + i) (pu[m + i]?.getD ⟨false, 0, 0⟩) (by rw [List.getElem?_eq_getElem hmi]; rfl)
    have hcur : ∀ j u, (putV pu)[j]? = some u → cur[j]? = some u := fun j u hj => by
      rw [← q6, List.getElem?_take] at hj
      split at hj
      · simpa using hj
      · cases hj
    rw [if_neg (by omega)]
    refine ⟨g, m * 3, cur, (0, 0), by simp [addr_add], hk.old q2 (fun f => f), ?_, ?_, ?_⟩
    · rw [show m * 3 + i * 3 = (m + i) * 3 by omega]
      exact hcur _ _ hget.1
    · rw [show m * 3 + i * 3 = (m + i) * 3 by omega]
      exact hcur _ _ hget.2.1
    · rw [show m * 3 + i * 3 = (m + i) * 3 by omega]
      exact hcur _ _ hget.2.2

end Go.Proofs.YtmhinalgjfiliaaDoor


/-
  A redo log by the Puts that it has taken; each call on it. No statement of the seat is proved here.
-/
namespace Go.Proofs.YtmhinalgjfiliaaDoor
open Go.RowKit Go.Shelf

/-- A redo log that has taken these Puts, with its own blocks. -/
def LogAt (w : World) (r most : Nat) (L : List (Int × Int)) (Ow : Nat → Prop) : Prop :=
  ∃ v1 v2 bt p K vf Ot, RedoAt w r most (redoE L) (redoU L) v1 v2 bt p K vf Ot ∧ ∀ q, Ow q ↔ ROwn r v1 v2 Ot q

section
variable {w w' : World} {r most : Nat} {L : List (Int × Int)} {Ow : Nat → Prop}
theorem LogAt.kept {S : Nat → Prop} (h : LogAt w r most L Ow) (k : Keeps S w w') (hS : ∀ q, Ow q → ¬ S q) : LogAt w' r most L Ow := by
  obtain ⟨v1, v2, bt, p, K, vf, Ot, h1, h2⟩ := h
  exact ⟨v1, v2, bt, p, K, vf, Ot, h1.kept k (fun q hq => hS q ((h2 q).2 hq)), h2⟩
theorem LogAt.like {a : World} (h : LogAt w r most L Ow) (l : Like a w) : LogAt a r most L Ow :=
  h.kept (S := fun _ => False) (l.keeps (Keeps.refl _ _)) (fun _ _ f => f)
theorem LogAt.lt (h : LogAt w r most L Ow) {q : Nat} (hq : Ow q) : q < w.heap.size := by
  obtain ⟨v1, v2, bt, p, K, vf, Ot, h1, h2⟩ := h
  exact h1.lt ((h2 q).1 hq)
theorem LogAt.cells (h : LogAt w r most L Ow) {q : Nat} (hq : Ow q) : ∃ c t fr, w.heap[q]? = some (.cells c t fr) := by
  obtain ⟨v1, v2, bt, p, K, vf, Ot, h1, h2⟩ := h
  exact h1.cells ((h2 q).1 hq)
theorem LogAt.grown (h : LogAt w r most L Ow) {row : Option Nat} (hg : w.grownBy w' row) (hr : ∀ r, row = some r → ∃ o : Obj, w.heap[r]? = some o ∧ o.isCells = false) : LogAt w' r most L Ow := by
  obtain ⟨v1, v2, bt, p, K, vf, Ot, h1, h2⟩ := h
  exact ⟨v1, v2, bt, p, K, vf, Ot, h1.grown hg hr, h2⟩
theorem LogAt.fit (h : LogAt w r most L Ow) : (redoE L).length ≤ 1048576 := by
  obtain ⟨v1, v2, bt, p, K, vf, Ot, h1, h2⟩ := h
  exact Nat.le_trans h1.fit h1.most20
theorem LogAt.many (h : LogAt w r most L Ow) : L.length ≤ 4398046511104 := by
  obtain ⟨v1, v2, bt, p, K, vf, Ot, h1, h2⟩ := h
  have := h1.many
  rwa [redoU_length] at this
end

theorem log_new (most : Nat) (hm : most ≤ 1048576) (w : World) (h0 : 0 < w.heap.size) :
    Calls Tryd.prog 47 #[.int .i64 most] w fun e w' => ∃ r, e = .returned (.tuple #[.pointer (some ⟨r, 0, none⟩), .int .i64 0]) ∧ (∃ Ow, LogAt w' r most [] Ow ∧ ∀ q, Ow q → w.heap.size ≤ q) ∧ Keeps (fun _ => False) w w' := by
  refine (redo_new most hm w h0).mono ?_
  rintro e w' ⟨r, v1, v2, bt, p, K, vf, Ot, h1, h2, h3, h4⟩
  exact ⟨r, h1, ⟨_, ⟨v1, v2, bt, p, K, vf, Ot, h2, fun q => Iff.rfl⟩, h3⟩, h4⟩

/-- Is there no room for a new address? -/
def Full (most : Nat) (L : List (Int × Int)) (a : Int) : Prop := ¬ idxE (redoE L) a < (redoE L).length ∧ most ≤ (redoE L).length

theorem log_put (r most : Nat) (L : List (Int × Int)) (Ow : Nat → Prop) (a x : Int) (w : World) (h : LogAt w r most L Ow) (hw : Tz w) (hm : L.length < 4398046511104) (hf : ¬ Full most L a) :
    Calls Tryd.prog 29 #[.pointer (some ⟨r, 0, none⟩), .int .u64 a, .int .u64 x] w fun e w' => e = .returned (.int .i64 0) ∧ (∃ Ow', LogAt w' r most (L ++ [(a, x)]) Ow' ∧ ∀ q, Ow' q → Ow q ∨ w.heap.size ≤ q) ∧ Keeps Ow w w' := by
  obtain ⟨v1, v2, bt, p, K, vf, Ot, h1, h2⟩ := h
  have hmu : (redoU L).length < 4398046511104 := by rw [redoU_length]; exact hm
  by_cases hi : idxE (redoE L) a < (redoE L).length
  · refine (redo_put_in r most bt p _ _ v1 v2 K vf Ot a x w h1 hw hi hmu).mono ?_
    rintro e w' ⟨rfl, v2', g1, g2, g3⟩
    refine ⟨rfl, ⟨_, ⟨v1, v2', bt, p, K, vf, Ot, by rw [redoE_snoc, redoU_snoc]; exact g1, fun q => Iff.rfl⟩, fun q hq => ?_⟩, g3.mono (fun q _ hq => (h2 q).2 hq)⟩
    rcases hq with hq | hq | hq | hq
    · exact .inl ((h2 q).2 (.inl hq))
    · exact .inl ((h2 q).2 (.inr (.inl hq)))
    · rcases g2 q hq with hq | hq
      · exact .inl ((h2 q).2 (.inr (.inr (.inl hq))))
      · exact .inr hq
    · exact .inl ((h2 q).2 (.inr (.inr (.inr hq))))
  · have hlt : (redoE L).length < most := by
      have : ¬ most ≤ (redoE L).length := fun e => hf ⟨hi, e⟩
      omega
    refine (redo_put_new r most bt p _ _ v1 v2 K vf Ot a x w h1 hw hi hlt hmu).mono ?_
    rintro e w' ⟨rfl, v1', v2', p', K', vf', Ot', g1, g2, g3⟩
    exact ⟨rfl, ⟨_, ⟨v1', v2', bt, p', K', vf', Ot', by rw [redoE_snoc, redoU_snoc]; exact g1, fun q => Iff.rfl⟩, fun q hq => (g2 q hq).imp (h2 q).2 id⟩, g3.mono (fun q _ hq => (h2 q).2 hq)⟩
theorem log_put_full (r most : Nat) (L : List (Int × Int)) (Ow : Nat → Prop) (a x : Int) (w : World) (h : LogAt w r most L Ow) (hw : Tz w) (hf : Full most L a) :
    Calls Tryd.prog 29 #[.pointer (some ⟨r, 0, none⟩), .int .u64 a, .int .u64 x] w fun e w' => e = .returned (.int .i64 5) ∧ Like w' w := by
  obtain ⟨v1, v2, bt, p, K, vf, Ot, h1, h2⟩ := h
  exact redo_put_full r most bt p _ _ v1 v2 K vf Ot a x w h1 hw hf.1 hf.2

theorem log_get (r most : Nat) (L : List (Int × Int)) (Ow : Nat → Prop) (a : Int) (w : World) (h : LogAt w r most L Ow) (hw : Tz w) :
    Calls Tryd.prog 32 #[.pointer (some ⟨r, 0, none⟩), .int .u64 a] w fun e w' => e = .returned (.tuple #[.int .u64 (if idxE (redoE L) a < (redoE L).length then wordE (redoE L) a else 0), .bool (decide (idxE (redoE L) a < (redoE L).length))]) ∧ w' = w := by
  obtain ⟨v1, v2, bt, p, K, vf, Ot, h1, h2⟩ := h
  exact redo_get r most bt p _ _ v1 v2 K vf Ot a w h1 hw
theorem log_len (r most : Nat) (L : List (Int × Int)) (Ow : Nat → Prop) (w : World) (h : LogAt w r most L Ow) :
    Calls Tryd.prog 37 #[.pointer (some ⟨r, 0, none⟩)] w fun e w' => e = .returned (.int .i64 (redoE L).length) ∧ w' = w := by
  obtain ⟨v1, v2, bt, p, K, vf, Ot, h1, h2⟩ := h
  obtain ⟨a, c, e, _, _⟩ := h1.ents.form
  have := h1.c1
  rw [e] at this
  exact redo_len r a _ c w this
set_option maxHeartbeats 400000 in
/-- At of a list of entries, in it. -/
theorem at_in (v : Value) (es : List (Int × Int)) (i : Nat) (a x : Int) (w : World) (h : Row w 44 2 v es.length (entV es)) (hes : es.length ≤ 4398046511104) (hi : es[i]? = some (a, x)) :
    Calls Tryd.prog 85 #[v, .int .i64 i] w fun e w' => e = .returned (.tuple #[.agg #[.int .u64 a, .int .u64 x], .bool true]) ∧ Keeps (fun _ => False) w w' := by
  have hlt : i < es.length := (List.getElem?_eq_some_iff.1 hi).1
  obtain ⟨g, cap, rfl, h2, h3, h4, h5⟩ := h.at (by omega)
  obtain ⟨e1, e2⟩ := entV_get es i (a, x) hi
  have c1 := (h4 (i * 2) (by omega)).trans e1
  have c2 := (h4 (i * 2 + 1) (by omega)).trans e2
  have hgl := World.block_lt_of_cell? _ _ c1
  have hk : Keeps (fun _ => False) w (w.alloc (.cells #[.int .u64 a, .int .u64 x] 44)) := (Keeps.refl _ w).alloc _
  have d1 : (w.alloc (.cells #[.int .u64 0, .int .u64 0] 44)).cell? ⟨g, i * 2, none⟩ = some (.int .u64 a) := (World.cell?_alloc_lt w _ ⟨g, i * 2, none⟩ hgl).trans c1
  have d2 : (w.alloc (.cells #[.int .u64 0, .int .u64 0] 44)).cell? ⟨g, i * 2 + 1, none⟩ = some (.int .u64 x) := (World.cell?_alloc_lt w _ ⟨g, i * 2 + 1, none⟩ hgl).trans c2
  have hil : (i : Int) < (es.length : Int) := by omega
  have hi0 : (0 : Int) ≤ (i : Int) := by omega
  clear h h4 h5 hi e1 e2 hlt
  go_enter Tryd.func85, Tryd.ntmps85
  go_wp2_with fail
  refine bodyPost_ret (v := .tuple #[.agg #[.int .u64 a, .int .u64 x], .bool true]) (by rw [results_cell_tmp rfl]; go_simp) rfl ?_
  exact ⟨rfl, hk⟩
theorem at_out (v : Value) (es : List (Int × Int)) (i : Int) (w : World) (h : Row w 44 2 v es.length (entV es)) (hes : es.length ≤ 4398046511104) (hi : i < 0 ∨ es.length ≤ i) :
    Calls Tryd.prog 85 #[v, .int .i64 i] w fun e w' => e = .returned (.tuple #[.agg #[.int .u64 0, .int .u64 0], .bool false]) ∧ Keeps (fun _ => False) w w' := by
  obtain ⟨a, c, rfl, _, _⟩ := h.form
  have hk : Keeps (fun _ => False) w (w.alloc (.cells #[.int .u64 0, .int .u64 0] 44)) := (Keeps.refl _ w).alloc _
  clear h
  rcases hi with hi | hi
  · go_enter Tryd.func85, Tryd.ntmps85
    go_wp2_with fail
    refine bodyPost_ret (v := .tuple #[.agg #[.int .u64 0, .int .u64 0], .bool false]) (by rw [results_cell_tmp rfl]; go_simp) rfl ?_
    exact ⟨rfl, hk⟩
  · have hi0 : 0 ≤ i := by omega
    go_enter Tryd.func85, Tryd.ntmps85
    go_wp2_with fail
    refine bodyPost_ret (v := .tuple #[.agg #[.int .u64 0, .int .u64 0], .bool false]) (by rw [results_cell_tmp rfl]; go_simp) rfl ?_
    exact ⟨rfl, hk⟩

set_option maxHeartbeats 400000 in
theorem log_at (r most : Nat) (L : List (Int × Int)) (Ow : Nat → Prop) (i : Nat) (a x : Int) (w : World) (h : LogAt w r most L Ow) (hi : (redoE L)[i]? = some (a, x)) :
    Calls Tryd.prog 76 #[.pointer (some ⟨r, 0, none⟩), .int .i64 i] w fun e w' => e = .returned (.tuple #[.agg #[.int .u64 a, .int .u64 x], .bool true]) ∧ Keeps (fun _ => False) w w' := by
  have hfit := h.fit
  obtain ⟨v1, v2, bt, p, K, vf, Ot, h1, h2⟩ := h
  have hka : Keeps (fun _ => False) w (w.alloc (.cells #[.int .u64 0, .int .u64 0] 44)) := (Keeps.refl _ w).alloc _
  have hA := h1.kept hka (fun _ _ f => f)
  have hat := at_in v1 _ i a x _ hA.ents (by omega) hi
  have c1 := hA.c1
  have hb := alloc_block w (.cells #[.int .u64 0, .int .u64 0] 44)
  clear h1 hA hi
  go_enter Tryd.func76, Tryd.ntmps76
  go_wp2_with fail
  generalize w.alloc (.cells #[.int .u64 0, .int .u64 0] 44) = W1 at *
  refine hat.mono ?_
  rintro e w2 ⟨rfl, hk2⟩
  have hb2 := hk2.old hb (fun f => f)
  have hkk := (hka.trans hk2)
  have e0 : w2.cell? ⟨w.heap.size, 0, none⟩ = some (.int .u64 0) := cell_of_block hb2 0
  have e1 : w2.cell? ⟨w.heap.size, 1, none⟩ = some (.int .u64 0) := cell_of_block hb2 1
  have f0 : w2.frozen? ⟨w.heap.size, 0, none⟩ = false := frozen_of_block hb2 0
  have f1 : w2.frozen? ⟨w.heap.size, 1, none⟩ = false := frozen_of_block hb2 1
  go_wp2_with fail
  refine bodyPost_ret (v := .tuple #[.agg #[.int .u64 a, .int .u64 x], .bool true]) (by rw [results_cell_tmp rfl]; go_simp) rfl ?_
  refine ⟨rfl, ?_⟩
  exact (hkk.setCell (p := ⟨w.heap.size, 0, none⟩) (.inl (Nat.le_refl _)) _).setCell (p := ⟨w.heap.size, 1, none⟩) (.inl (Nat.le_refl _)) _
end Go.Proofs.YtmhinalgjfiliaaDoor
