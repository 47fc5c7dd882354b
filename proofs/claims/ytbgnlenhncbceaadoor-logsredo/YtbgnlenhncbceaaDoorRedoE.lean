
/-
  The way back of a redo log: the library's walk over the Puts, the last one first. No statement of the seat is proved here.
-/
import Derived.Test.YtbgnlenhncbceaaDoorRedoD
import Derived.Test.YtbgnlenhncbceaaDoorLoopM
namespace Go.Proofs.YtbgnlenhncbceaaDoor
open Go.RowKit Go.Shelf
attribute [local go_sem] Oper.semAt_some

/-- What was kept of a Put, as a value. -/
def ptV (x : Pt) : Value := .agg #[.bool x.came, .int .i64 x.place, .int .u64 x.word]

/-- A Put is taken back, whichever way it went. -/
theorem takeBack_any (r most bt p : Nat) (es : List (Int × Int)) (pu : List Pt) (v1 v2 : Value) (K : List (Option Int)) (vf : Int → Value) (Ot : Nat → Prop) (a x : Int) (w : World) (h : RedoAt w r most (putE es a x) pu v1 v2 bt p K vf Ot) (hw : Tz w) :
    Calls Tryd.prog 56 #[.pointer (some ⟨r, 0, none⟩), ptV (ptOf es a)] w fun e w' => (∃ v, e = .returned v) ∧ ∃ v1' K' Ot', RedoAt w' r most es pu v1' v2 bt p K' vf Ot' ∧ (∀ q, ROwn r v1' v2 Ot' q → ROwn r v1 v2 Ot q) ∧ Keeps (TOwn r v1 Ot) w w' := by
  have hb := back_put es a x
  by_cases hi : idxE es a < es.length
  · have hpt : ptOf es a = ⟨false, idxE es a, wordE es a⟩ := if_pos hi
    have hpe : putE es a x = es.set (idxE es a) (a, x) := if_pos hi
    have hj : (putE es a x)[idxE es a]? = some (a, x) := by rw [hpe, List.getElem?_set_self hi]
    have hs : (putE es a x).set (idxE es a) (a, wordE es a) = es := by
      rw [hpt] at hb
      simp only [backE, Bool.false_eq_true, if_false] at hb
      rw [hj] at hb
      exact hb
    rw [hpt]
    refine (takeBack_word r most bt p _ pu v1 v2 K vf Ot (idxE es a) a x (wordE es a) w h hj).mono ?_
    rintro e w' ⟨h1, h2, h3⟩
    rw [hs] at h2
    exact ⟨h1, v1, K, Ot, h2, fun q hq => hq, h3⟩
  · have hpt : ptOf es a = ⟨true, 0, 0⟩ := if_neg hi
    have hpe : putE es a x = es ++ [(a, x)] := if_neg hi
    rw [hpt]
    exact takeBack_came r most bt p _ es pu v1 v2 K vf Ot a x w h hw hpe

/-- The Puts that are walked over: the walk's own variable, and their cells. -/
structure BackAt (W : World) (bx : Nat) (a : Option Addr) (m c : Nat) (U : Nat → Pt) : Prop where
  box : W.heap[bx]? = some (.cells #[.slice a m c] 55 (0, 0))
  cell : ∀ i, i < m → ∃ g off cc fr, a = some ⟨g, off, none⟩ ∧ W.heap[g]? = some (.cells cc 89 fr) ∧ cc[off + i * 3]? = some (.bool (U i).came) ∧ cc[off + i * 3 + 1]? = some (.int .i64 (U i).place) ∧ cc[off + i * 3 + 2]? = some (.int .u64 (U i).word)
/-- The blocks of the walk. -/
def BackOn (bx : Nat) (a : Option Addr) (k : Nat) : Prop := k = bx ∨ ∃ off, a = some ⟨k, off, none⟩
theorem BackAt.kept {W W' : World} {bx : Nat} {a : Option Addr} {m c : Nat} {U : Nat → Pt} (h : BackAt W bx a m c U) (k : KeptOn (BackOn bx a) W W') : BackAt W' bx a m c U :=
  ⟨k.block _ _ _ _ (.inl rfl) h.box, fun i hi => by
    obtain ⟨g, off, cc, fr, h1, h2, h3⟩ := h.cell i hi
    exact ⟨g, off, cc, fr, h1, k.block _ _ _ _ (.inr ⟨off, h1⟩) h2, h3⟩⟩
theorem BackAt.below {W W' : World} {bx : Nat} {a : Option Addr} {m c : Nat} {U : Nat → Pt} (h : BackAt W bx a m c U) (k : Below W.heap.size W W') : BackAt W' bx a m c U :=
  ⟨(k.block _ (lt_of_block h.box)).trans h.box, fun i hi => by
    obtain ⟨g, off, cc, fr, h1, h2, h3⟩ := h.cell i hi
    exact ⟨g, off, cc, fr, h1, (k.block _ (lt_of_block h2)).trans h2, h3⟩⟩

set_option maxRecDepth 100000 in
set_option maxHeartbeats 1000000 in
theorem backward1_in (n : Nat) (hn : 1 ≤ n) (l bx m c : Nat) (a : Option Addr) (U : Nat → Pt) (hm : m ≤ 4398046511104) (J Jx : List (Nat × Pt) → World → Prop) (W : World)
    (hY : ∀ pre x W1, J pre W1 → pre.length < m → x = (m - 1 - pre.length, U (m - 1 - pre.length)) → YieldAt Fence.wide (n - 1) Tryd.prog l #[.int .i64 (x.1 : Nat), ptV x.2] W1 fun e W' =>
      (e = .returned (.bool true) ∧ J (pre ++ [x]) W' ∧ KeptOn (BackOn bx a) W1 W') ∨ (e = .returned (.bool false) ∧ Jx (pre ++ [x]) W'))
    (hR : BackAt W bx a m c U) (h0 : J [] W) :
    CallsIn Fence.wide n Tryd.prog 66 #[.func (.yield l) #[] #[], .pointer (some ⟨bx, 0, none⟩)] W fun e W' => (∃ v, e = .returned v) ∧
      ((∃ ys, ys.length = m ∧ J ys W') ∨ (∃ pre, True ∧ Jx pre W')) := by
  have b0 : W.cell? ⟨bx, 0, none⟩ = some (.slice a m c) := cell_of_block hR.box 0
  refine callsIn_of_wp Tryd.func66 rfl trivial ?_ rfl
  simp only [Tryd.ntmps66, List.size_toArray, List.length_cons, List.length_nil, Nat.reduceAdd, Nat.reduceSub, Array.replicate_succ, Array.replicate_zero, List.push_toArray, List.append_toArray, List.nil_append, List.cons_append]
  gi_wp2
  clear b0
  gi_loopw [3] (fun v wr => ∃ q : Nat, q ≤ m ∧ v = .int .i64 ((q : Int) - 1) ∧ ∃ pre, pre.length + q = m ∧ J pre wr ∧ BackAt wr bx a m c U)
    (fun v _ => (intOf v + 1).toNat)
  case atStart => exact ⟨m, Nat.le_refl _, rfl, [], by simp, h0, hR⟩
  case round =>
    obtain ⟨q, hq, rfl, pre, hpre, hJs, hR1⟩ := hrel
    clear hR h0
    have b0 : wr.cell? ⟨bx, 0, none⟩ = some (.slice a m c) := cell_of_block hR1.box 0
    cases q with
    | zero =>
      gi_wp2
      go_end0
      exact ⟨⟨_, rfl⟩, .inl ⟨pre, by omega, hJs⟩⟩
    | succ q =>
      have hq1 : ((q + 1 : Nat) : Int) - 1 = (q : Int) := by omega
      rw [hq1]
      obtain ⟨g, off, cc, fr, rfl, hg, g0, g1, g2⟩ := hR1.cell q (by omega)
      obtain ⟨fn, tmps, assign, body, hy, hRR⟩ := hY pre (q, U q) wr hJs (by omega) (by rw [show m - 1 - pre.length = q by omega])
      have e0 : wr.cell? ⟨g, off + q * 3, none⟩ = some (.bool (U q).came) := (cell_of_block hg _).trans g0
      have e1 : wr.cell? ⟨g, off + q * 3 + 1, none⟩ = some (.int .i64 (U q).place) := (cell_of_block hg _).trans g1
      have e2 : wr.cell? ⟨g, off + q * 3 + 2, none⟩ = some (.int .u64 (U q).word) := (cell_of_block hg _).trans g2
      have hql : (q : Int) < (m : Int) := by omega
      have hq0 : (0 : Int) ≤ (q : Int) := by omega
      dsimp only [ptV] at hy hRR
      clear hg g0 g1 g2 hY
      gi_wp2
      refine hRR.mono ?_
      rintro e W3 (⟨rfl, hJ3, hk3⟩ | ⟨rfl, hJx3⟩)
      · have hR3 := hR1.kept hk3
        clear b0 e0 e1 e2
        gi_wp2
        go_roundw
        case rel => exact ⟨q, by omega, by go_num, pre ++ [(q, U q)], by simp; omega, hJ3, hR3⟩
        case measure => simp [intOf]
      · gi_wp2
        refine bodyPost_ret (results_none rfl _ _ _) rfl ?_
        exact ⟨⟨_, rfl⟩, .inr ⟨_, trivial, hJx3⟩⟩

/-- The library's walk, as an iterator. -/
theorem backward_next (n : Nat) (hn : 1 ≤ n) (bx m c : Nat) (a : Option Addr) (U : Nat → Pt) (hm : m ≤ 4398046511104) (w : World) (hR : BackAt w bx a m c U) :
    SeqNext Fence.wide n Tryd.prog 66 #[.pointer (some ⟨bx, 0, none⟩)] (fun x : Nat × Pt => #[.int .i64 (x.1 : Nat), ptV x.2]) (KeptOn (BackOn bx a)) (fun ys => ys.length = m) (fun _ => True) m (fun pre x => x = (m - 1 - pre.length, U (m - 1 - pre.length))) w :=
  fun l J Jx W hW _ _ hY h0 => backward1_in n hn l bx m c a U hm J Jx W (fun pre x W1 h1 h2 h3 => by
    obtain ⟨fn, tmps, assign, body, hy, hRR⟩ := hY pre x W1 h1 h2 h3
    exact ⟨fn, tmps, assign, body, hy, hRR.mono (fun e W' h => h.imp id (fun ⟨q1, q2, _⟩ => ⟨q1, q2⟩))⟩) (hR.below hW) h0
end Go.Proofs.YtbgnlenhncbceaaDoor
