
/-
  A statement that leaves its order open: a call and an allocation that come up beside each other. No statement of the seat is proved here.
-/
import Derived.Test.YtalopkllldnipaaArM
namespace Go.Proofs.Ytalopkllldnipaa
open Go.RowKit
section
variable {P : Program} {ops : Array Oper} {md : Region.Mode}

theorem put_comm (a : Act) {d e : Nat} (h : d ≠ e) (x y : Value) : (a.put (some d) x).put (some e) y = (a.put (some e) y).put (some d) x := by
  unfold Act.put
  simp only [Act.mk.injEq, and_true]
  exact Array.setIfInBounds_comm _ _ h
/-- A call and an allocation, in any order; R: what holds behind both. -/
theorem held_call_alloc {S : World → Prop} {i j : Nat} {oi oj : Oper} {f : Nat} {args : Array Value} {o : Obj} {fuel : Nat} {listed : Array Bool} {a : Act} {w : World} {K : Act → World → Prop} (R : Nat → Value → World → Prop) (di dj : Nat)
    (hr : Region.ready md ops listed = [i, j]) (hri : Region.ready md ops (listed.setIfInBounds i true) = [j]) (hrj : Region.ready md ops (listed.setIfInBounds j true) = [i])
    (hoi : ops[i]? = some oi) (hoj : ops[j]? = some oj) (hdi : oi.dst = some di) (hdj : oj.dst = some dj) (hne : di ≠ dj) (hij : i ≠ j)
    (hwi : ∀ t, Region.wanted oi (yielded ops t) = true) (hwj : ∀ t, Region.wanted oj (yielded ops t) = true)
    (hci : ∀ w', S w' → (execOp a.eval oi).run P w' = .ok (.enter f args) w') (hci2 : ∀ w' v, S w' → (execOp (a.put (some dj) v).eval oi).run P w' = .ok (.enter f args) w')
    (hal : ∀ w', (execOp a.eval oj).run P w' = .ok (.value (.pointer (some ⟨w'.heap.size, 0, none⟩))) (w'.alloc o)) (hal2 : ∀ w' v, (execOp (a.put (some di) v).eval oj).run P w' = .ok (.value (.pointer (some ⟨w'.heap.size, 0, none⟩))) (w'.alloc o))
    (hS : S w) (hS2 : S (w.alloc o)) (hA : Calls P f args (w.alloc o) fun e w' => ∃ v, e = .returned v ∧ R w.heap.size v w') (hB : Calls P f args w fun e w' => ∃ v, e = .returned v ∧ S w' ∧ R w'.heap.size v (w'.alloc o))
    (h : ∀ q v w', R q v w' → S w' ∧ wpAnyH P md ops (atEnd K) S fuel ((listed.setIfInBounds i true).setIfInBounds j true) ((a.put (some di) v).put (some dj) (.pointer (some ⟨q, 0, none⟩))) w') :
    wpAnyH P md ops (atEnd K) S (fuel + 2) listed a w :=
  wpAnyH_all hr (by simp) (fun k hk => by
    have hk : k = i ∨ k = j := by simpa using hk
    rcases hk with rfl | rfl
    · unfold wpOp
      simp only [hoi, hwi, if_true]
      refine .inl ?_
      unfold Oper.wp
      rw [hci w hS]
      show Calls P f args w _
      refine hB.mono ?_
      rintro e w' ⟨v, rfl, h1, h2⟩
      refine ⟨h1, ?_⟩
      rw [hdi]
      have q := h _ _ _ h2
      exact held_val (some dj) hri hoj hdj (hwj _) (hal2 w' v) q.1 q.2
    · unfold wpOp
      simp only [hoj, hwj, if_true]
      refine .inl ?_
      unfold Oper.wp
      rw [hal w]
      show S (w.alloc o) ∧ wpAnyH P md ops (atEnd K) S (fuel + 1) _ (a.put oj.dst (.pointer (some ⟨w.heap.size, 0, none⟩))) (w.alloc o)
      rw [hdj]
      refine ⟨hS2, held_call di hrj hoi hdi (hwi _) (hci2 _ _ hS2) ?_⟩
      refine hA.mono ?_
      rintro e w' ⟨v, rfl, h2⟩
      have q := h _ _ _ h2
      refine ⟨v, rfl, q.1, ?_⟩
      rw [put_comm a (Ne.symm hne), Array.setIfInBounds_comm _ _ (Ne.symm hij)]
      exact q.2)
/-- May an operation be taken now? -/
def tkB (md : Region.Mode) (ops : Array Oper) (L : Array Bool) (e : Nat) : Prop := Region.free md ops L e = true ∧ (Region.ready md ops L).contains e = true
/-- A call whose two values are taken apart, and an allocation, in any order. -/
theorem held_call3_alloc {S : World → Prop} {i j : Nat} {oi oj o1 o2 o3 : Oper} {f : Nat} {args : Array Value} {o : Obj} {fuel : Nat} {listed : Array Bool} {a : Act} {w : World} {K : Act → World → Prop} (R : Nat → Value → Value → World → Prop) (di dj d1 d2 d3 e1 e2 e3 : Nat)
    (hr : Region.ready md ops listed = [i, j]) (hrj : Region.ready md ops (listed.setIfInBounds j true) = [i]) (hre : Region.ready md ops ((((listed.setIfInBounds i true).setIfInBounds e1 true).setIfInBounds e2 true).setIfInBounds e3 true) = [j])
    (hoi : ops[i]? = some oi) (hoj : ops[j]? = some oj) (ho1 : ops[e1]? = some o1) (ho2 : ops[e2]? = some o2) (ho3 : ops[e3]? = some o3)
    (hdi : oi.dst = some di) (hdj : oj.dst = some dj) (hd1 : o1.dst = some d1) (hd2 : o2.dst = some d2) (hd3 : o3.dst = some d3)
    (hne : di ≠ dj ∧ d1 ≠ dj ∧ d2 ≠ dj ∧ d3 ≠ dj) (hij : i ≠ j ∧ e1 ≠ j ∧ e2 ≠ j ∧ e3 ≠ j)
    (hwi : ∀ t, Region.wanted oi (yielded ops t) = true) (hwj : ∀ t, Region.wanted oj (yielded ops t) = true) (hw1 : ∀ t, Region.wanted o1 (yielded ops t) = true) (hw2 : ∀ t, Region.wanted o2 (yielded ops t) = true) (hw3 : ∀ t, Region.wanted o3 (yielded ops t) = true)
    (hns : Region.noSelect ops = true)
    (b1 : tkB md ops (listed.setIfInBounds i true) e1) (b2 : tkB md ops ((listed.setIfInBounds i true).setIfInBounds e1 true) e2) (b3 : tkB md ops (((listed.setIfInBounds i true).setIfInBounds e1 true).setIfInBounds e2 true) e3)
    (c1 : tkB md ops ((listed.setIfInBounds i true).setIfInBounds j true) e1) (c2 : tkB md ops (((listed.setIfInBounds i true).setIfInBounds e1 true).setIfInBounds j true) e2) (c3 : tkB md ops ((((listed.setIfInBounds i true).setIfInBounds e1 true).setIfInBounds e2 true).setIfInBounds j true) e3)
    (hci : ∀ w', S w' → (execOp a.eval oi).run P w' = .ok (.enter f args) w') (hci2 : ∀ w' v, S w' → (execOp (a.put (some dj) v).eval oi).run P w' = .ok (.enter f args) w')
    (hal : ∀ w', (execOp a.eval oj).run P w' = .ok (.value (.pointer (some ⟨w'.heap.size, 0, none⟩))) (w'.alloc o)) (hal2 : ∀ (a' : Act) w', (execOp a'.eval oj).run P w' = .ok (.value (.pointer (some ⟨w'.heap.size, 0, none⟩))) (w'.alloc o))
    (r1 : ∀ y z w', S w' → (execOp (a.put (some di) (.tuple #[y, z])).eval o1).run P w' = .ok (.value (.tuple #[y, z])) w') (r2 : ∀ y z w', S w' → (execOp ((a.put (some di) (.tuple #[y, z])).put (some d1) (.tuple #[y, z])).eval o2).run P w' = .ok (.value y) w') (r3 : ∀ y z w', S w' → (execOp (((a.put (some di) (.tuple #[y, z])).put (some d1) (.tuple #[y, z])).put (some d2) y).eval o3).run P w' = .ok (.value z) w')
    (x1 : ∀ y z p w', S w' → (execOp ((a.put (some di) (.tuple #[y, z])).put (some dj) p).eval o1).run P w' = .ok (.value (.tuple #[y, z])) w') (x2 : ∀ y z p w', S w' → (execOp (((a.put (some di) (.tuple #[y, z])).put (some d1) (.tuple #[y, z])).put (some dj) p).eval o2).run P w' = .ok (.value y) w') (x3 : ∀ y z p w', S w' → (execOp ((((a.put (some di) (.tuple #[y, z])).put (some d1) (.tuple #[y, z])).put (some d2) y).put (some dj) p).eval o3).run P w' = .ok (.value z) w')
    (hS : S w) (hS2 : S (w.alloc o)) (hA : Calls P f args (w.alloc o) fun e w' => ∃ y z, e = .returned (.tuple #[y, z]) ∧ S w' ∧ R w.heap.size y z w') (hB : Calls P f args w fun e w' => ∃ y z, e = .returned (.tuple #[y, z]) ∧ S w' ∧ R w'.heap.size y z (w'.alloc o))
    (h : ∀ q y z w', R q y z w' → S w' ∧ wpAnyH P md ops (atEnd K) S fuel (((((listed.setIfInBounds i true).setIfInBounds e1 true).setIfInBounds e2 true).setIfInBounds e3 true).setIfInBounds j true) (((((a.put (some di) (.tuple #[y, z])).put (some d1) (.tuple #[y, z])).put (some d2) y).put (some d3) z).put (some dj) (.pointer (some ⟨q, 0, none⟩))) w') :
    wpAnyH P md ops (atEnd K) S (fuel + 5) listed a w :=
  wpAnyH_all hr (by simp) (fun k hk => by
    have hk : k = i ∨ k = j := by simpa using hk
    rcases hk with rfl | rfl
    · unfold wpOp
      simp only [hoi, hwi, if_true]
      refine .inl ?_
      unfold Oper.wp
      rw [hci w hS]
      show Calls P f args w _
      refine hB.mono ?_
      rintro e w' ⟨y, z, rfl, h1, h2⟩
      refine ⟨h1, ?_⟩
      rw [hdi]
      have q := h _ _ _ _ h2
      refine held_take d1 ho1 hd1 hns b1.1 b1.2 (hw1 _) (r1 y z) h1 ?_
      refine held_take d2 ho2 hd2 hns b2.1 b2.2 (hw2 _) (r2 y z) h1 ?_
      refine held_take d3 ho3 hd3 hns b3.1 b3.2 (hw3 _) (r3 y z) h1 ?_
      exact held_val (some dj) hre hoj hdj (hwj _) (hal2 _ w') q.1 q.2
    · unfold wpOp
      simp only [hoj, hwj, if_true]
      refine .inl ?_
      unfold Oper.wp
      rw [hal w]
      show S (w.alloc o) ∧ wpAnyH P md ops (atEnd K) S (fuel + 4) _ (a.put oj.dst (.pointer (some ⟨w.heap.size, 0, none⟩))) (w.alloc o)
      rw [hdj]
      refine ⟨hS2, held_call di hrj hoi hdi (hwi _) (hci2 _ _ hS2) ?_⟩
      refine hA.mono ?_
      rintro e w' ⟨y, z, rfl, h1, h2⟩
      have q := h _ _ _ _ h2
      refine ⟨_, rfl, q.1, ?_⟩
      rw [put_comm a (Ne.symm hne.1), Array.setIfInBounds_comm _ _ (Ne.symm hij.1)]
      refine held_take d1 ho1 hd1 hns c1.1 c1.2 (hw1 _) (x1 y z _) h1 ?_
      rw [put_comm _ (Ne.symm hne.2.1), Array.setIfInBounds_comm _ _ (Ne.symm hij.2.1)]
      refine held_take d2 ho2 hd2 hns c2.1 c2.2 (hw2 _) (x2 y z _) h1 ?_
      rw [put_comm _ (Ne.symm hne.2.2.1), Array.setIfInBounds_comm _ _ (Ne.symm hij.2.2.1)]
      refine held_take d3 ho3 hd3 hns c3.1 c3.2 (hw3 _) (x3 y z _) h1 ?_
      rw [put_comm _ (Ne.symm hne.2.2.2), Array.setIfInBounds_comm _ _ (Ne.symm hij.2.2.2)]
      exact q.2)
end
end Go.Proofs.Ytalopkllldnipaa
