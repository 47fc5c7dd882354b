/-
  A statement that leaves its order open, inside a round: its loads taken first. No statement of the seat is proved here.
-/
import Derived.Test.YtmffkcbdgpaieaaRound
namespace Go.Proofs.Ytmffkcbdgpaieaa
open Go.RowKit
section
variable {n l : Nat} {P : Program} {ops : Array Oper} {Q : Exit → Act → World → Prop} {md : Region.Mode}

/-- A region in a round, its loads taken first under S. -/
theorem wpIn_round_held {id : Nat} {a : Act} {w : World} {S : World → Prop} (N : Nat) (hN : ops.size = N) (hm : P.follows .mixedOrders = true) (hd : noDefer ops = true)
    (h : wpAnyH P .any ops (atEnd (Q .normal)) S N (Array.replicate N false) a w.drew) : (Code.region id ops true).wpIn (Fence.wide.inRound l) n P Q a w := by
  subst hN
  exact wpIn_round_any hm hd (wpAny_of_held _ _ _ _ h)
/-- Take number i first, into slot d. -/
theorem held_take {S : World → Prop} {i : Nat} {oi : Oper} {v : Value} {K : Act → World → Prop} {fuel : Nat} {listed : Array Bool} {a : Act} {w : World} (d : Nat) (hi : ops[i]? = some oi) (hdst : oi.dst = some d)
    (hs : Region.noSelect ops = true) (hf : Region.free md ops listed i = true) (hr : (Region.ready md ops listed).contains i = true) (hw : Region.wanted oi (yielded ops a.tmps) = true)
    (hy : ∀ w', S w' → (execOp a.eval oi).run P w' = .ok (.value v) w') (hS : S w)
    (h : wpAnyH P md ops (atEnd K) S fuel (listed.setIfInBounds i true) (a.put (some d) v) w) : wpAnyH P md ops (atEnd K) S (fuel + 1) listed a w :=
  wpAnyH_take hi hs hf hr (fun _ _ _ h => h.elim) (.inl ⟨hw, hy⟩) hS (by rw [hdst]; exact h)

/-- One operation that comes up alone. -/
theorem held_one {S : World → Prop} {i : Nat} {o : Oper} {fuel : Nat} {listed : Array Bool} {a : Act} {w : World} {K : Act → World → Prop} (hr : Region.ready md ops listed = [i]) (ho : ops[i]? = some o) (hw : Region.wanted o (yielded ops a.tmps) = true)
    (h : o.wp P a w (fun a' w' => S w' ∧ wpAnyH P md ops (atEnd K) S fuel (listed.setIfInBounds i true) a' w') (atEnd K)) : wpAnyH P md ops (atEnd K) S (fuel + 1) listed a w :=
  wpAnyH_all hr (by simp) (fun j hj => by
    obtain rfl : j = i := by simpa using hj
    unfold wpOp
    simp only [ho, hw, if_true]
    exact .inl h)

/-- A call that comes up alone, into slot d. -/
theorem held_call {S : World → Prop} {i : Nat} {o : Oper} {f : Nat} {args : Array Value} {fuel : Nat} {listed : Array Bool} {a : Act} {w : World} {K : Act → World → Prop} (d : Nat) (hr : Region.ready md ops listed = [i]) (ho : ops[i]? = some o) (hdst : o.dst = some d) (hw : Region.wanted o (yielded ops a.tmps) = true)
    (hrun : (execOp a.eval o).run P w = .ok (.enter f args) w) (h : Calls P f args w fun e w' => ∃ v, e = .returned v ∧ S w' ∧ wpAnyH P md ops (atEnd K) S fuel (listed.setIfInBounds i true) (a.put (some d) v) w') : wpAnyH P md ops (atEnd K) S (fuel + 1) listed a w := by
  refine held_one hr ho hw ?_
  unfold Oper.wp
  rw [hrun]
  show Calls P f args w _
  refine h.mono ?_
  rintro e w' ⟨v, rfl, h1, h2⟩
  exact ⟨h1, by rw [hdst]; exact h2⟩
theorem held_end {S : World → Prop} {listed : Array Bool} {a : Act} {w : World} {K : Act → World → Prop} (hr : Region.ready md ops listed = []) (h : K a w) (fuel : Nat) : wpAnyH P md ops (atEnd K) S fuel listed a w := wpAnyH_done hr h fuel
end

end Go.Proofs.Ytmffkcbdgpaieaa
