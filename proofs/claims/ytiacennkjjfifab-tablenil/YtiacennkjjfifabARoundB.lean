
/-
  A statement that leaves its order open, inside a round: its loads taken first. No statement of the seat is proved here.
-/
import Derived.Test.YtiacennkjjfifabARound
namespace Go.Proofs.Ytiacennkjjfifab
open Go.RowKit
section
variable {n l : Nat} {P : Program} {ops : Array Oper} {Q : Exit → Act → World → Prop} {md : Region.Mode}

/-- A region in a round, its loads taken first under S. -/
theorem wpIn_round_held {id : Nat} {a : Act} {w : World} {S : World → Prop} (N : Nat) (hN : ops.size = N) (hm : P.follows .mixedOrders = true) (hd : noDefer ops = true)
    (h : wpAnyH P .any ops (atEnd (Q .normal)) S N (Array.replicate N false) a w.drew) : (Code.region id ops true).wpIn (Fence.wide.inRound l) n P Q a w := by
  subst hN
  exact wpIn_round_any hm hd (wpAny_of_held _ _ _ _ h)
/-- Take number i first, into slot d. -/
theorem held_take {S : World → Prop} {i : Nat} {oi : Oper} {v : Value} {K : Act → World → Prop} {fuel : Nat} {listed : Array Bool} {a : Act} {w : World} (d : Nat) (hi : ops[i]? = some oi) (hdst : oi.dst = some d)
    (hs : Region.noSelect ops = true) (hf : Region.free md ops listed i = true) (hr : (Region.ready md ops listed).contains i = true) (hw : Region.wanted oi (yielded ops a.tmps) = true)
    (hy : ∀ w', S w' → (execOp a.eval oi).run P w' = .ok (.value v) w') (hS : S w)
    (h : wpAnyH P md ops (atEnd K) S fuel (listed.setIfInBounds i true) (a.put (some d) v) w) : wpAnyH P md ops (atEnd K) S (fuel + 1) listed a w :=
  wpAnyH_take hi hs hf hr (fun _ _ _ h => h.elim) (.inl ⟨hw, hy⟩) hS (by rw [hdst]; exact h)

/-- One operation that comes up alone. -/
theorem held_one {S : World → Prop} {i : Nat} {o : Oper} {fuel : Nat} {listed : Array Bool} {a : Act} {w : World} {K : Act → World → Prop} (hr : Region.ready md ops listed = [i]) (ho : ops[i]? = some o) (hw : Region.wanted o (yielded ops a.tmps) = true)
    (h : o.wp P a w (fun a' w' => S w' ∧ wpAnyH P md ops (atEnd K) S fuel (listed.setIfInBounds i true) a' w') (atEnd K)) : wpAnyH P md ops (atEnd K) S (fuel + 1) listed a w :=
  wpAnyH_all hr (by simp) (fun j hj => by
    obtain rfl : j = i := by simpa using hj
    unfold wpOp
    simp only [ho, hw, if_true]
    exact .inl h)

/-- A call that comes up alone, into slot d. -/
theorem held_call {S : World → Prop} {i : Nat} {o : Oper} {f : Nat} {args : Array Value} {fuel : Nat} {listed : Array Bool} {a : Act} {w : World} {K : Act → World → Prop} (d : Nat) (hr : Region.ready md ops listed = [i]) (ho : ops[i]? = some o) (hdst : o.dst = some d) (hw : Region.wanted o (yielded ops a.tmps) = true)
    (hrun : (execOp a.eval o).run P w = .ok (.enter f args) w) (h : Calls P f args w fun e w' => ∃ v, e = .returned v ∧ S w' ∧ wpAnyH P md ops (atEnd K) S fuel (listed.setIfInBounds i true) (a.put (some d) v) w') : wpAnyH P md ops (atEnd K) S (fuel + 1) listed a w := by
  refine held_one hr ho hw ?_
  unfold Oper.wp
  rw [hrun]
  show Calls P f args w _
  refine h.mono ?_
  rintro e w' ⟨v, rfl, h1, h2⟩
  exact ⟨h1, by rw [hdst]; exact h2⟩
theorem held_end {S : World → Prop} {listed : Array Bool} {a : Act} {w : World} {K : Act → World → Prop} (hr : Region.ready md ops listed = []) (h : K a w) (fuel : Nat) : wpAnyH P md ops (atEnd K) S fuel listed a w := wpAnyH_done hr h fuel

/-- One operation that comes up alone and yields a value. -/
theorem any_val {i : Nat} {o : Oper} {v : Value} {w' : World} {fuel : Nat} {listed : Array Bool} {a : Act} {w : World} {K : Act → World → Prop} (d : Option Nat) (hr : Region.ready md ops listed = [i]) (ho : ops[i]? = some o) (hdst : o.dst = d)
    (hw : Region.wanted o (yielded ops a.tmps) = true) (hrun : (execOp a.eval o).run P w = .ok (.value v) w') (h : wpAny P md ops (atEnd K) fuel (listed.setIfInBounds i true) (a.put d v) w') : wpAny P md ops (atEnd K) (fuel + 1) listed a w :=
  wpAny_all hr (by simp) (fun j hj => by
    obtain rfl : j = i := by simpa using hj
    unfold wpOp
    simp only [ho, hw, if_true]
    refine .inl ?_
    unfold Oper.wp
    rw [hrun]
    show wpAny P md ops (atEnd K) fuel _ (a.put o.dst v) w'
    rw [hdst]
    exact h)
/-- One operation that comes up alone and yields nothing. -/
theorem any_skip {i : Nat} {o : Oper} {w' : World} {fuel : Nat} {listed : Array Bool} {a : Act} {w : World} {K : Act → World → Prop} (hr : Region.ready md ops listed = [i]) (ho : ops[i]? = some o) (hdst : o.dst = none)
    (hw : Region.wanted o (yielded ops a.tmps) = true) (hrun : (execOp a.eval o).run P w = .ok .skip w') (h : wpAny P md ops (atEnd K) fuel (listed.setIfInBounds i true) a w') : wpAny P md ops (atEnd K) (fuel + 1) listed a w :=
  wpAny_all hr (by simp) (fun j hj => by
    obtain rfl : j = i := by simpa using hj
    unfold wpOp
    simp only [ho, hw, if_true]
    refine .inl ?_
    unfold Oper.wp
    rw [hrun]
    show wpAny P md ops (atEnd K) fuel _ (a.put o.dst undef) w'
    rw [hdst]
    exact h)
/-- Two that may come up. -/
theorem any_val2 {i j : Nat} {oi oj : Oper} {vi vj : Value} {wi wj : World} {fuel : Nat} {listed : Array Bool} {a : Act} {w : World} {K : Act → World → Prop} (di dj : Option Nat) (hr : Region.ready md ops listed = [i, j]) (hoi : ops[i]? = some oi) (hoj : ops[j]? = some oj) (hdi : oi.dst = di) (hdj : oj.dst = dj)
    (hwi : Region.wanted oi (yielded ops a.tmps) = true) (hwj : Region.wanted oj (yielded ops a.tmps) = true) (hri : (execOp a.eval oi).run P w = .ok (.value vi) wi) (hrj : (execOp a.eval oj).run P w = .ok (.value vj) wj)
    (h1 : wpAny P md ops (atEnd K) fuel (listed.setIfInBounds i true) (a.put di vi) wi) (h2 : wpAny P md ops (atEnd K) fuel (listed.setIfInBounds j true) (a.put dj vj) wj) : wpAny P md ops (atEnd K) (fuel + 1) listed a w :=
  wpAny_all hr (by simp) (fun k hk => by
    have hk : k = i ∨ k = j := by simpa using hk
    rcases hk with rfl | rfl
    · unfold wpOp
      simp only [hoi, hwi, if_true]
      refine .inl ?_
      unfold Oper.wp
      rw [hri]
      show wpAny P md ops (atEnd K) fuel _ (a.put oi.dst vi) wi
      rw [hdi]
      exact h1
    · unfold wpOp
      simp only [hoj, hwj, if_true]
      refine .inl ?_
      unfold Oper.wp
      rw [hrj]
      show wpAny P md ops (atEnd K) fuel _ (a.put oj.dst vj) wj
      rw [hdj]
      exact h2)
/-- Take number i first, which yields whatever the world. -/
theorem any_take {i : Nat} {oi : Oper} {v : Value} {K : Act → World → Prop} {fuel : Nat} {listed : Array Bool} {a : Act} {w : World} (d : Nat) (hi : ops[i]? = some oi) (hdst : oi.dst = some d)
    (hs : Region.noSelect ops = true) (hf : Region.free md ops listed i = true) (hr : (Region.ready md ops listed).contains i = true) (hw : Region.wanted oi (yielded ops a.tmps) = true)
    (hy : ∀ w', (execOp a.eval oi).run P w' = .ok (.value v) w')
    (h : wpAny P md ops (atEnd K) fuel (listed.setIfInBounds i true) (a.put (some d) v) w) : wpAny P md ops (atEnd K) (fuel + 1) listed a w :=
  wpAny_take hi hs hf hr (fun _ _ _ h => h.elim) (.inl ⟨hw, hy⟩) (by rw [hdst]; exact h)
theorem any_end {listed : Array Bool} {a : Act} {w : World} {K : Act → World → Prop} (hr : Region.ready md ops listed = []) (h : K a w) (fuel : Nat) : wpAny P md ops (atEnd K) fuel listed a w := wpAny_done hr h fuel

theorem wpIn_round_anyN {id : Nat} {a : Act} {w : World} (N : Nat) (hN : ops.size = N) (hm : P.follows .mixedOrders = true) (hd : noDefer ops = true)
    (h : wpAny P .any ops (atEnd (Q .normal)) N (Array.replicate N false) a w.drew) : (Code.region id ops true).wpIn (Fence.wide.inRound l) n P Q a w := by
  subst hN
  exact wpIn_round_any hm hd h
theorem run_append_op {o : Oper} {a : Act} {w w' : World} {s x : Operand} {t : TypeId} {v y v' : Value} (hop : o.op = Op.call { callee := Callee.builtin Builtin.append, args := #[s, x], argTypes := #[t, t] }) (hs : a.eval s = v) (hx : a.eval x = y)
    (hrun : (Builtin.append_ #[t, t] o.type #[v, y]).run P w = .ok v' w') : (execOp a.eval o).run P w = .ok (.value v') w' := by
  simp [execOp, hop, resolve, invoke, builtin, hs, hx, hrun, Result.andThen]

/-- One operation that comes up alone and yields a value, under S. -/
theorem held_val {S : World → Prop} {i : Nat} {o : Oper} {v : Value} {w' : World} {fuel : Nat} {listed : Array Bool} {a : Act} {w : World} {K : Act → World → Prop} (d : Option Nat) (hr : Region.ready md ops listed = [i]) (ho : ops[i]? = some o) (hdst : o.dst = d)
    (hw : Region.wanted o (yielded ops a.tmps) = true) (hrun : (execOp a.eval o).run P w = .ok (.value v) w') (hS : S w') (h : wpAnyH P md ops (atEnd K) S fuel (listed.setIfInBounds i true) (a.put d v) w') : wpAnyH P md ops (atEnd K) S (fuel + 1) listed a w := by
  refine held_one hr ho hw ?_
  unfold Oper.wp
  rw [hrun]
  show S w' ∧ wpAnyH P md ops (atEnd K) S fuel _ (a.put o.dst v) w'
  rw [hdst]
  exact ⟨hS, h⟩
theorem held_none {S : World → Prop} {i : Nat} {o : Oper} {w' : World} {fuel : Nat} {listed : Array Bool} {a : Act} {w : World} {K : Act → World → Prop} (hr : Region.ready md ops listed = [i]) (ho : ops[i]? = some o) (hdst : o.dst = none)
    (hw : Region.wanted o (yielded ops a.tmps) = true) (hrun : (execOp a.eval o).run P w = .ok .skip w') (hS : S w') (h : wpAnyH P md ops (atEnd K) S fuel (listed.setIfInBounds i true) a w') : wpAnyH P md ops (atEnd K) S (fuel + 1) listed a w := by
  refine held_one hr ho hw ?_
  unfold Oper.wp
  rw [hrun]
  show S w' ∧ wpAnyH P md ops (atEnd K) S fuel _ (a.put o.dst undef) w'
  rw [hdst]
  exact ⟨hS, h⟩
theorem held_val2 {S : World → Prop} {i j : Nat} {oi oj : Oper} {vi vj : Value} {wi wj : World} {fuel : Nat} {listed : Array Bool} {a : Act} {w : World} {K : Act → World → Prop} (di dj : Option Nat) (hr : Region.ready md ops listed = [i, j]) (hoi : ops[i]? = some oi) (hoj : ops[j]? = some oj) (hdi : oi.dst = di) (hdj : oj.dst = dj)
    (hwi : Region.wanted oi (yielded ops a.tmps) = true) (hwj : Region.wanted oj (yielded ops a.tmps) = true) (hri : (execOp a.eval oi).run P w = .ok (.value vi) wi) (hrj : (execOp a.eval oj).run P w = .ok (.value vj) wj) (hSi : S wi) (hSj : S wj)
    (h1 : wpAnyH P md ops (atEnd K) S fuel (listed.setIfInBounds i true) (a.put di vi) wi) (h2 : wpAnyH P md ops (atEnd K) S fuel (listed.setIfInBounds j true) (a.put dj vj) wj) : wpAnyH P md ops (atEnd K) S (fuel + 1) listed a w :=
  wpAnyH_all hr (by simp) (fun k hk => by
    have hk : k = i ∨ k = j := by simpa using hk
    rcases hk with rfl | rfl
    · unfold wpOp
      simp only [hoi, hwi, if_true]
      refine .inl ?_
      unfold Oper.wp
      rw [hri]
      show S wi ∧ wpAnyH P md ops (atEnd K) S fuel _ (a.put oi.dst vi) wi
      rw [hdi]
      exact ⟨hSi, h1⟩
    · unfold wpOp
      simp only [hoj, hwj, if_true]
      refine .inl ?_
      unfold Oper.wp
      rw [hrj]
      show S wj ∧ wpAnyH P md ops (atEnd K) S fuel _ (a.put oj.dst vj) wj
      rw [hdj]
      exact ⟨hSj, h2⟩)
end

end Go.Proofs.Ytiacennkjjfifab
