/-
  No statement of the seat is proved here. (Several texts in one: RdoA, RdoB.)
-/
import Derived.Test.YtbgnlenhncbceaaDoorReadsB
import Derived.Test.YtbgnlenhncbceaaDoorOverM
import Derived.Test.YtbgnlenhncbceaaDoorRefM
import Derived.Test.YtbgnlenhncbceaaDoorWalkL

/-
  At, Back of a redo log at any place; Put and Get of the document's. No statement of the seat is proved here.
-/
namespace Go.Proofs.YtbgnlenhncbceaaDoor
open Go.RowKit Go.Shelf
attribute [local go_sem] Oper.semAt_some

set_option maxRecDepth 100000 in
set_option maxHeartbeats 400000 in
theorem log_at_any (r most : Nat) (L : List (Int × Int)) (Ow : Nat → Prop) (k : Int) (w : World) (h : LogAt w r most L Ow) :
    Calls Tryd.prog 36 #[.pointer (some ⟨r, 0, none⟩), .int .i64 k] w fun e w' => e = .returned (.tuple #[.agg #[.int .u64 (atC (redoE L) k).1, .int .u64 (atC (redoE L) k).2], .bool (atB (redoE L) k)]) ∧ Keeps (fun _ => False) w w' := by
  obtain ⟨v1, v2, bt, p, K, vf, Ot, h1, h2⟩ := h
  have hka : Keeps (fun _ => False) w (w.alloc (.cells #[.int .u64 0, .int .u64 0] 72)) := (Keeps.refl _ w).alloc _
  have hA := h1.kept hka (fun _ _ f => f)
  have hat := at_any v1 _ k _ hA.ents.pairs
  have c1 := hA.c1
  have hb := alloc_block w (.cells #[.int .u64 0, .int .u64 0] 72)
  clear h1 hA
  generalize (atC (redoE L) k).1 = a at *
  generalize (atC (redoE L) k).2 = x at *
  generalize atB (redoE L) k = b at *
  go_enter Tryd.func36, Tryd.ntmps36
  go_wp2_with fail
  generalize w.alloc (.cells #[.int .u64 0, .int .u64 0] 72) = W1 at *
  refine hat.mono ?_
  rintro e w2 ⟨rfl, hk2⟩
  have hb2 := hk2.old hb (fun f => f)
  have hkk := (hka.trans hk2)
  have e0 : w2.cell? ⟨w.heap.size, 0, none⟩ = some (.int .u64 0) := cell_of_block hb2 0
  have e1 : w2.cell? ⟨w.heap.size, 1, none⟩ = some (.int .u64 0) := cell_of_block hb2 1
  have f0 : w2.frozen? ⟨w.heap.size, 0, none⟩ = false := frozen_of_block hb2 0
  have f1 : w2.frozen? ⟨w.heap.size, 1, none⟩ = false := frozen_of_block hb2 1
  clear hat
  go_wp2_with fail
  refine bodyPost_ret (v := .tuple #[.agg #[.int .u64 a, .int .u64 x], .bool b]) (by rw [results_cell_tmp rfl]; go_simp) rfl ?_
  refine ⟨rfl, ?_⟩
  exact (hkk.setCell (p := ⟨w.heap.size, 0, none⟩) (.inl (Nat.le_refl _)) _).setCell (p := ⟨w.heap.size, 1, none⟩) (.inl (Nat.le_refl _)) _

set_option maxHeartbeats 400000 in
theorem log_back_no (r most : Nat) (L : List (Int × Int)) (Ow : Nat → Prop) (k : Int) (w : World) (h : LogAt w r most L Ow) (hk : k < 0 ∨ (L.length : Int) < k) :
    Calls Tryd.prog 34 #[.pointer (some ⟨r, 0, none⟩), .int .i64 k] w fun e w' => e = .returned (.int .i64 2) ∧ Keeps (fun _ => False) w w' := by
  have hm := h.many
  have hka : Keeps (fun _ => False) w (w.alloc (.cells #[.pointer (some ⟨r, 0, none⟩)] 50)) := (Keeps.refl _ w).alloc _
  have h' := h.kept hka (fun _ _ f => f)
  obtain ⟨v1, v2, bt, p, K, vf, Ot, h1, h2⟩ := h'
  obtain ⟨a, c, e, _, _⟩ := h1.puts.form
  have c3 := h1.c3
  rw [e, redoU_length] at c3
  have c2 := h1.c2
  have ht := redo_there r bt _ c2
  have hb := cell_of_block (alloc_block w (.cells #[.pointer (some ⟨r, 0, none⟩)] 50)) 0
  simp only [List.getElem?_toArray, List.getElem?_cons_zero] at hb
  clear h h1 h2 e
  by_cases h0 : k < 0
  · have hd0 : decide (k < 0) = true := by simp [h0]
    go_enter Tryd.func34, Tryd.ntmps34
    go_wp2_with (go_at_call 47; refine ht.mono ?_; rintro e w' ⟨rfl, hw'⟩; replace hw' := hw'.symm; subst hw')
    go_ret
    exact ⟨rfl, hka⟩
  · have hd0 : decide (k < 0) = false := by simp; omega
    have hk' : (L.length : Int) < k := by omega
    go_enter Tryd.func34, Tryd.ntmps34
    go_wp2_with (go_at_call 47; refine ht.mono ?_; rintro e w' ⟨rfl, hw'⟩; replace hw' := hw'.symm; subst hw')
    go_ret
    exact ⟨rfl, hka⟩

set_option maxRecDepth 100000 in
set_option maxHeartbeats 400000 in
theorem refo_put_full (b most : Nat) (L : List (Int × Int)) (Ow : Nat → Prop) (a x : Int) (w : World) (h : RefOwn w b most L Ow) (hm : L.length < 4398046511104) (hf : Full most L a) :
    Calls Tryd.prog 30 #[.pointer (some ⟨b, 0, none⟩), .int .u64 a, .int .u64 x] w fun e w' => e = .returned (.int .i64 5) ∧ Keeps (fun _ => False) w w' := by
  obtain ⟨v, h1, h2⟩ := h
  have hrd := ref_redo b most L v w h1 hm
  have hle := redoE_length L
  have HE : Hid (∀ w1, Keeps (fun _ => False) w w1 → w1.cell? ⟨b, 0, none⟩ = some (.int .i64 most)) := fun w1 hk1 => cell_of_block (h1.kept hk1 (fun f => f) (fun _ _ f => f)).box 0
  have hA : atE (redoE L) a < 0 := atE_neg.2 hf.1
  have hN0 := hf.2
  clear h1 h2 hf
  go_enter Tryd.func30, Tryd.ntmps30
  go_wp2_with fail
  refine hrd.mono ?_
  rintro e w1 ⟨vo, rfl, hrow, _, hk1⟩
  have c0 := HE.out w1 hk1
  have hat := ref_at vo _ a w1 hrow.pairs (by omega)
  obtain ⟨ao, co, rfl, _, _⟩ := hrow.form
  clear hrd HE hrow
  generalize atE (redoE L) a = A at *
  generalize (redoE L).length = N at *
  have hN : (N : Int) ≥ (most : Int) := by omega
  go_wp2_with (first | (go_at_call 52; refine hat.mono ?_; rintro e w' ⟨rfl, hw'⟩; replace hw' := hw'.symm; subst hw'))
  go_ret
  exact ⟨rfl, hk1⟩

set_option maxRecDepth 100000 in
set_option maxHeartbeats 400000 in
theorem refo_get (b most : Nat) (L : List (Int × Int)) (Ow : Nat → Prop) (a : Int) (w : World) (h : RefOwn w b most L Ow) (hm : L.length < 4398046511104) :
    Calls Tryd.prog 51 #[.pointer (some ⟨b, 0, none⟩), .int .u64 a] w fun e w' => e = .returned (.tuple #[.int .u64 (if idxE (redoE L) a < (redoE L).length then wordE (redoE L) a else 0), .bool (decide (idxE (redoE L) a < (redoE L).length))]) ∧ Keeps (fun _ => False) w w' := by
  obtain ⟨v, h1, h2⟩ := h
  have hrd := ref_redo b most L v w h1 hm
  have hle := redoE_length L
  clear h1 h2
  by_cases hi : idxE (redoE L) a < (redoE L).length
  · rw [if_pos hi, decide_eq_true hi]
    have hA : atE (redoE L) a = (idxE (redoE L) a : Int) := if_pos hi
    have hix := idxE_at hi
    generalize wordE (redoE L) a = X at hix ⊢
    go_enter Tryd.func51, Tryd.ntmps51
    go_wp2_with fail
    refine hrd.mono ?_
    rintro e w1 ⟨vo, rfl, hrow, _, hk1⟩
    have hat := ref_at vo _ a w1 hrow.pairs (by omega)
    rw [hA] at hat
    obtain ⟨g, off, x, y, e1, e2, e3⟩ : ∃ g off x y, (∃ n c, vo = .slice (some ⟨g, off, none⟩) n c ∧ n = (redoE L).length) ∧ (redoE L)[idxE (redoE L) a]? = some (x, y) ∧ w1.cell? ⟨g, off + idxE (redoE L) a * 2 + 1, none⟩ = some (.int .u64 y) := by
      obtain ⟨av, cv, rfl, hc⟩ := hrow.pairs
      obtain ⟨g, off, x, y, rfl, q1, q2, q3⟩ := hc _ hi
      exact ⟨g, off, x, y, ⟨_, _, rfl, rfl⟩, q1, q3⟩
    obtain ⟨n, c, rfl, rfl⟩ := e1
    rw [hix] at e2
    replace e2 := (Prod.mk.inj (Option.some.inj e2)).2
    rw [← e2] at e3
    clear hrd hrow hix hA e2
    generalize idxE (redoE L) a = I at *
    generalize (redoE L).length = N at *
    have hI : (I : Int) < (N : Int) := by omega
    have hI0 : ¬ ((I : Int) < 0) := by omega
    go_wp2_with (first | (go_at_call 52; refine hat.mono ?_; rintro e w' ⟨rfl, hw'⟩; replace hw' := hw'.symm; subst hw'))
    go_ret2
    exact ⟨rfl, hk1⟩
  · rw [if_neg hi, decide_eq_false hi]
    have hA : atE (redoE L) a < 0 := atE_neg.2 hi
    go_enter Tryd.func51, Tryd.ntmps51
    go_wp2_with fail
    refine hrd.mono ?_
    rintro e w1 ⟨vo, rfl, hrow, _, hk1⟩
    have hat := ref_at vo _ a w1 hrow.pairs (by omega)
    clear hrd hrow
    generalize atE (redoE L) a = A at *
    go_wp2_with (first | (go_at_call 52; refine hat.mono ?_; rintro e w' ⟨rfl, hw'⟩; replace hw' := hw'.symm; subst hw'))
    go_ret2
    exact ⟨rfl, hk1⟩
end Go.Proofs.YtbgnlenhncbceaaDoor


/-
  A redo log and the document's, beside one another. No statement of the seat is proved here.
-/
namespace Go.Proofs.YtbgnlenhncbceaaDoor
open Go.RowKit Go.Shelf

/-- A redo log and the document's, with the same Puts, apart from one another. -/
structure Pr (X : World) (r b most : Nat) (L : List (Int × Int)) (Ow Of : Nat → Prop) : Prop where
  lg : LogAt X r most L Ow
  rf : RefOwn X b most L Of
  dj : ∀ q, Ow q → ¬ Of q
  p0 : ∀ q, Ow q → 0 < q
  f0 : ∀ q, Of q → 0 < q
  pl : ∀ c, c ∈ L → 0 ≤ c.1
  tz : Tz X
/-- What a call leaves of them. -/
def PrTo (X X' : World) (r b most : Nat) (L : List (Int × Int)) (Ow Of : Nat → Prop) : Prop :=
  ∃ L' Ow' Of', Pr X' r b most L' Ow' Of' ∧ (∀ q, Ow' q → Ow q ∨ X.heap.size ≤ q) ∧ (∀ q, Of' q → Of q ∨ X.heap.size ≤ q) ∧ Keeps (fun q => Ow q ∨ Of q) X X' ∧ L'.length ≤ L.length + 1

section
variable {X X' X'' : World} {r b most : Nat} {L : List (Int × Int)} {Ow Of : Nat → Prop}
theorem Pr.same (h : Pr X r b most L Ow Of) (k : Keeps (fun _ => False) X X') : Pr X' r b most L Ow Of :=
  ⟨h.lg.kept k (fun _ _ f => f), h.rf.kept k (fun _ _ f => f), h.dj, h.p0, h.f0, h.pl, h.tz.keeps k (fun f => f)⟩
theorem Pr.to (h : Pr X r b most L Ow Of) : PrTo X X r b most L Ow Of := ⟨L, Ow, Of, h, fun _ h => .inl h, fun _ h => .inl h, Keeps.refl _ _, by omega⟩
theorem PrTo.pre (h : PrTo X' X'' r b most L Ow Of) (k : Keeps (fun _ => False) X X') : PrTo X X'' r b most L Ow Of := by
  obtain ⟨L', Ow', Of', h1, h2, h3, h4, h5⟩ := h
  have := k.size
  exact ⟨L', Ow', Of', h1, fun q hq => (h2 q hq).imp id (fun e => by omega), fun q hq => (h3 q hq).imp id (fun e => by omega), (k.mono (fun _ _ f => f.elim)).trans h4, h5⟩
theorem PrTo.post (h : PrTo X X' r b most L Ow Of) (k : Keeps (fun _ => False) X' X'') : PrTo X X'' r b most L Ow Of := by
  obtain ⟨L', Ow', Of', h1, h2, h3, h4, h5⟩ := h
  exact ⟨L', Ow', Of', h1.same k, h2, h3, h4.trans (k.mono (fun _ _ f => f.elim)), h5⟩
/-- The first of the two goes on. -/
theorem Pr.one {L1 : List (Int × Int)} {Ow1 : Nat → Prop} (h : Pr X r b most L Ow Of) (k : Keeps Ow X X') (hn : ∀ q, Ow1 q → Ow q ∨ X.heap.size ≤ q) (_h1 : LogAt X' r most L1 Ow1) : RefOwn X' b most L Of ∧ (∀ q, Ow1 q → ¬ Of q) ∧ (∀ q, Ow1 q → 0 < q) ∧ Tz X' := by
  have h0 := h.tz.pos
  refine ⟨h.rf.kept k (fun q hf ho => h.dj q ho hf), fun q hq hf => ?_, fun q hq => ?_, h.tz.keeps k (fun e => by have := h.p0 0 e; omega)⟩
  · rcases hn q hq with e | e
    · exact h.dj q e hf
    · have := h.rf.lt hf
      omega
  · rcases hn q hq with e | e
    · exact h.p0 q e
    · omega
/-- And then the second. -/
theorem Pr.two {L1 : List (Int × Int)} {Ow1 Of1 : Nat → Prop} (h : Pr X r b most L Ow Of) (k : Keeps Ow X X') (hn : ∀ q, Ow1 q → Ow q ∨ X.heap.size ≤ q) (h1 : LogAt X' r most L1 Ow1) (k2 : Keeps Of X' X'') (hn2 : ∀ q, Of1 q → Of q ∨ X'.heap.size ≤ q) (h2 : RefOwn X'' b most L1 Of1) (hp : ∀ c, c ∈ L1 → 0 ≤ c.1) : Pr X'' r b most L1 Ow1 Of1 ∧ (∀ q, Ow1 q → Ow q ∨ X.heap.size ≤ q) ∧ (∀ q, Of1 q → Of q ∨ X.heap.size ≤ q) ∧ Keeps (fun q => Ow q ∨ Of q) X X'' := by
  obtain ⟨q1, q2, q3, q4⟩ := h.one k hn h1
  have hs := k.size
  have h0 := h.tz.pos
  refine ⟨⟨h1.kept k2 q2, h2, fun q ho hf => ?_, q3, fun q hf => ?_, hp, q4.keeps k2 (fun e => by have := h.f0 0 e; omega)⟩, hn, fun q hq => (hn2 q hq).imp id (fun e => by omega), ⟨k2.os.trans k.os, k2.tape.trans k.tape, k2.output.trans k.output, Nat.le_trans k.size k2.size, fun i hi hs2 => (k2.block i (by omega) (fun e => hs2 (.inr e))).trans (k.block i hi (fun e => hs2 (.inl e)))⟩⟩
  · rcases hn2 q hf with e | e
    · exact q2 q ho e
    · have := h1.lt ho
      omega
  · rcases hn2 q hf with e | e
    · exact h.f0 q e
    · omega
/-- What a walk of the log tells. -/
theorem pr_walk (h : Pr X r b most L Ow Of) {bx : Nat} {v : Value} {m : Int} (hbx : X.heap[bx]? = some (.cells #[.func (.func 48) #[.pointer (some ⟨r, 0, none⟩)] #[]] 69 (0, 0))) (hp : Pairs X v (redoE L)) :
    Calls Tryd.prog 14 #[.func (.func 58) #[] #[.pointer (some ⟨bx, 0, none⟩)], v, .int .i64 m] X fun e w' => e = .returned (.bool true) ∧ Keeps (fun _ => False) X w' :=
  lwalk bx 48 (some ⟨r, 0, none⟩) (redoE L) (by have := h.lg.fit; omega) v m (fun M k => M ≤ k ∧ k < M + 2) (0, 0) X (enters_of Tryd.func48 (by kernel_rfl) rfl) hbx hp (fun M k _ h => .inr h.1) (fun W hkW => (log_handed (h.same hkW).lg).mono fun e w' ⟨a, c, q1, q2, q3, _⟩ => ⟨a, c, q1, q2, q3⟩)
/-- Back of both. -/
theorem cut_state {Y Y1 Y3 : World} {m NF cF : Nat} {vF : Value} {aF : Option Addr} {Ow1 : Nat → Prop} (h : Pr Y r b most L Ow Of) (hro : ∀ q, Of q ↔ (q = b ∨ vF.ownBlock = some q)) (hvF : vF = .slice aF NF cF) (hcF : NF ≤ cF) (hNF : L.length = NF) (hm : m ≤ L.length)
    (h1 : LogAt Y1 r most (L.take m) Ow1) (hs : ∀ q, Ow1 q → Ow q) (k1 : Keeps Ow Y Y1) (hr1 : RefAt Y1 b most L vF) (k3 : Keeps (fun _ => False) Y1 Y3) :
    Pr (Y3.setCell ⟨b, 1, none⟩ (.slice aF m m)) r b most (L.take m) Ow1 (fun q => q = b ∨ (Value.slice aF m m).ownBlock = some q) ∧ (∀ q, Ow1 q → Ow q ∨ Y.heap.size ≤ q) ∧ (∀ q, (q = b ∨ (Value.slice aF m m).ownBlock = some q) → Of q ∨ Y.heap.size ≤ q) ∧ Keeps (fun q => Ow q ∨ Of q) Y (Y3.setCell ⟨b, 1, none⟩ (.slice aF m m)) := by
  have hob : (Value.slice aF m m).ownBlock = vF.ownBlock := by rw [hvF]; cases aF <;> rfl
  have hr3 := hr1.kept k3 (fun f => f) (fun _ _ f => f)
  have hks2 : Keeps (fun k => k = b) Y3 (Y3.setCell ⟨b, 1, none⟩ (.slice aF m m)) := (Keeps.refl (fun k => k = b) Y3).setCell (p := ⟨b, 1, none⟩) (.inr rfl) _
  have hlt : (L.take m).length = m := by rw [List.length_take]; omega
  have hrow := hr3.row
  have hcut := hrow.cut (m := m) (c := m) hm aF cF (by rw [hNF]; exact hvF) ⟨Nat.le_refl _, by omega⟩
  rw [entV_take] at hcut
  have hRef : RefAt (Y3.setCell ⟨b, 1, none⟩ (.slice aF m m)) b most (L.take m) (.slice aF m m) :=
    ⟨block_set hr3.box 1 _, by rw [hlt]; exact hcut.kept hks2 (fun q hq e => hr3.ner (by rw [← hob, hq, e]))⟩
  have kOf : Keeps Of Y3 (Y3.setCell ⟨b, 1, none⟩ (.slice aF m m)) := hks2.mono (fun q _ e => (hro q).2 (.inl e))
  exact h.two (k1.trans (k3.mono (fun _ _ f => f.elim))) (fun q hq => .inl (hs q hq)) (h1.kept k3 (fun _ _ f => f)) kOf (fun q hq => .inl ((hro q).2 (hq.imp id (fun e => by rw [← hob]; exact e)))) ⟨_, hRef, fun q => Iff.rfl⟩ (fun c hc => h.pl c (List.mem_of_mem_take hc))
end
end Go.Proofs.YtbgnlenhncbceaaDoor
