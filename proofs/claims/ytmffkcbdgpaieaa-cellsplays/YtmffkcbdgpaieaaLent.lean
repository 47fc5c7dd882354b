/-
  Walks of the law's 'lent' (words in new memory with marked room behind them) and of the program's Of (package cells). No statement of the seat is proved here.
-/
import Derived.Test.YtmffkcbdgpaieaaRowE
import Derived.Deep.Upon
namespace Go.Proofs.Ytmffkcbdgpaieaa
open Go.RowKit

/-- append(v, s...) where v is the call's own: a longer row of the call's own. -/
theorem append_words (w : World) (base : Nat) (v : Value) (n : Nat) (xs : List Value) (hown : w.ownsRow base 36 1 v n xs) (sp : Option Addr) (l c : Nat) (ws : List Int) (hn : ws.length = l) (hr : Reads w sp ws)
    (h0 : sp = none → c = 0) (hb : (n + l) * 8 ≤ 140737488355328) (hbase : base ≤ w.heap.size) :
    ∃ v' w', (Builtin.append_ #[22, 22] 22 #[v, .slice sp l c]).run Try.prog w = .ok v' w' ∧ w'.ownsRow base 36 1 v' (n + l) (xs ++ (u64s ws).toList) ∧ w.grownBy w' v.ownBlock := by
  obtain ⟨i0, hi, hz0, hz1, hz2⟩ := info_parts info36
  cases sp with
  | none =>
    have hl : l = 0 := by
      rcases Nat.eq_zero_or_pos l with h | h
      · exact h
      · obtain ⟨a, ha, _⟩ := hr 0 (by omega)
        cases ha
    subst hl
    obtain rfl : ws = [] := List.eq_nil_of_length_eq_zero hn
    obtain rfl := h0 rfl
    have hsrc : Src Try.prog i0.size 22 (.slice none 0 0) 0 [] w := Src.ofNil w (e' := 36) Try.underlying22 0
    have hg : w.grownBy w v.ownBlock := ⟨rfl, rfl, rfl, Nat.le_refl _, fun _ _ _ => rfl⟩
    rcases hown.2 with ⟨rfl, rfl⟩ | ⟨g, cap, cur, rfl, h1, h2, h3, h4, h5, h6⟩
    · exact ⟨_, _, run_append_nothing w 22 22 22 36 i0 Try.underlying22 hi none 0 0 (Nat.le_refl _) _ hsrc, by simpa [u64s] using hown, hg⟩
    · exact ⟨_, _, run_append_nothing w 22 22 22 36 i0 Try.underlying22 hi (some ⟨g, 0, none⟩) n cap h3 _ hsrc, by simpa [u64s] using hown, hg⟩
  | some a =>
    obtain ⟨v', w', h1, h2, h3, _⟩ := run_append_own (P := Try.prog) w base 22 22 36 i0 (.int .u64 0) 1 8 Try.underlying22 hi hz0 hz1 hz2 rfl (by decide) v n xs hown a l c (u64s ws).toList (by simp [u64s, hn])
      (fun j u hj => by
        have hj' : j < ws.length := by
          have := (List.getElem?_eq_some_iff.1 hj).1
          simpa [u64s] using this
        obtain ⟨a', ha', hc⟩ := hr j hj'
        cases ha'
        rw [hc, ← u64s_get ws j hj', ← hj]
        simp)
      (fun u hu => by
        simp [u64s] at hu
        obtain ⟨y, _, rfl⟩ := hu
        rfl) (by simp only [maxLen]; omega) hb hbase
    exact ⟨v', w', h1, h2, h3⟩

/-- An append whose run is known, at its place in the walk. -/
theorem wpList_append_run {P : Program} {w : World} {ops : Array Oper} {rest : List Oper} {o : Oper} {a : Act} {Q : Exit → Act → World → Prop} (hgd : o.guard = none) (s x : Operand) (t : TypeId)
    (ho : o.op = .call { callee := .builtin .append, args := #[s, x], argTypes := #[t, t] }) (v y v' : Value) (w' : World) (hs : a.eval s = v) (hx : a.eval x = y)
    (hrun : (Builtin.append_ #[t, t] o.type #[v, y]).run P w = .ok v' w') (h : wpList P ops Q rest (a.put o.dst v') w') : wpList P ops Q (o :: rest) a w :=
  wpList_plain hgd fun K hK => by
    unfold Oper.wp execOp
    simp only [ho, resolve, invoke, builtin, Sem.run_bind, Sem.run_pure, Result.andThen_ok, List.map_toArray, List.map_cons, List.map_nil, hs, hx, hrun]
    exact hK _ _ h

/-- What 'lent' leaves: a slice of the words over a block of its own, the marks behind them. -/
structure Lent (w : World) (g cap : Nat) (ws : List Int) : Prop where
  block : ∃ cur : Array Value, w.heap[g]? = some (.cells cur 36 (0, 0)) ∧ cur.size = cap ∧ cur.toList.take (ws.length + 2) = (u64s (ws ++ [77, 78])).toList
  room : ws.length + 2 ≤ cap
  cap : cap ≤ maxLen

theorem Lent.cell {w : World} {g cap : Nat} {ws : List Int} (h : Lent w g cap ws) (i : Nat) (hi : i < ws.length + 2) : w.cell? ⟨g, i, none⟩ = some (.int .u64 ((ws ++ [77, 78])[i]?.getD 0)) := by
  obtain ⟨cur, h1, h2, h3⟩ := h.block
  rw [cell_of_block h1]
  have : (cur.toList.take (ws.length + 2))[i]? = (u64s (ws ++ [77, 78])).toList[i]? := by rw [h3]
  rw [List.getElem?_take_of_lt hi] at this
  have h4 := u64s_get (ws ++ [77, 78]) i (by simp; omega)
  rw [← h4]
  simpa using this
theorem Lent.frozen {w : World} {g cap : Nat} {ws : List Int} (h : Lent w g cap ws) (i : Nat) : w.frozen? ⟨g, i, none⟩ = false := by
  obtain ⟨cur, h1, _⟩ := h.block
  exact frozen_of_block h1 i
theorem Lent.lt {w : World} {g cap : Nat} {ws : List Int} (h : Lent w g cap ws) : g < w.heap.size := by
  obtain ⟨cur, h1, _⟩ := h.block
  exact lt_of_block h1
theorem Lent.reads {w : World} {g cap : Nat} {ws : List Int} (h : Lent w g cap ws) : Reads w (some ⟨g, 0, none⟩) ws := fun i hi => by
  refine ⟨_, rfl, ?_⟩
  rw [addr_add, Nat.zero_add, h.cell i (by omega), List.getElem?_append_left hi]
theorem Lent.kept {S : Nat → Prop} {w w' : World} {g cap : Nat} {ws : List Int} (h : Lent w g cap ws) (k : Keeps S w w') (hg : ¬ S g) : Lent w' g cap ws := by
  obtain ⟨cur, h1, h2, h3⟩ := h.block
  exact ⟨⟨cur, (k.block g (lt_of_block h1) hg).trans h1, h2, h3⟩, h.room, h.cap⟩

theorem Keeps.of_grown {w w' : World} {row : Option Nat} (hg : w.grownBy w' row) (hr : ∀ k, row = some k → w.heap.size ≤ k) : Keeps (fun _ => False) w w' :=
  (Keeps.refl _ w).grown hg (fun k hk => .inl (hr k hk))

set_option maxHeartbeats 400000 in
theorem lent_any (sp : Option Addr) (l c : Nat) (ws : List Int) (w : World) (hn : ws.length = l) (hr : Reads w sp ws) (h0 : sp = none → c = 0) (hb : l * 8 ≤ 140737488351232) :
    Calls Try.prog 8 #[.slice sp l c] w fun e w' => ∃ g cap, e = .returned (.slice (some ⟨g, 0, none⟩) l cap) ∧ w.heap.size ≤ g ∧ Lent w' g cap ws ∧ Keeps (fun _ => False) w w' := by
  obtain ⟨v1, w1, hr1, ho1, hg1⟩ := append_words w w.heap.size (.slice none 0 0) 0 [] (World.ownsRow_nil _ _ _ _) sp l c ws hn hr h0 (by omega) (Nat.le_refl _)
  have hk1 : Keeps (fun _ => False) w w1 := Keeps.of_grown hg1 (fun k hk => by cases hk)
  have ho2 : (w1.alloc (.cells #[.int .u64 77, .int .u64 78] 36)).ownsRow w.heap.size 36 1 v1 (0 + l) ([] ++ (u64s ws).toList) := ho1.alloc _
  have hr2 : Reads (w1.alloc (.cells #[.int .u64 77, .int .u64 78] 36)) (some ⟨w1.heap.size, 0, none⟩) [77, 78] := Reads.block (MapKept.heap_alloc w1 _).1
  obtain ⟨v2, w2, hr3, ho3, hg3⟩ := append_words _ w.heap.size v1 (0 + l) _ ho2 _ 2 2 [77, 78] rfl hr2 (fun h => by cases h) (by omega) (by have := hk1.size; simp; omega)
  have hk2 : Keeps (fun _ => False) w w2 := (hk1.alloc _).grown hg3 (fun k hk => .inl (ho2.lt k hk).1)
  rcases ho3.2 with ⟨rfl, h⟩ | ⟨g, cap, cur, rfl, q1, q2, q3, q4, q5, q6⟩
  · omega
  have hL : Lent w2 g cap ws := ⟨⟨cur, q2, by omega, by
    have : ws.length + 2 = (0 + l + 2) * 1 := by omega
    rw [this, q6]
    simp [u64s]⟩, by omega, q4⟩
  have hlc : (l : Int) ≤ (cap : Int) := by omega
  have hc47 : l ≤ cap := by omega
  clear ho1 ho2 ho3 hg1 hg3 hr hr2 q2 q3 q4 q5 q6 hn hb h0 hk1
  simp only [Nat.zero_add] at hr3
  go_enter Try.func8, Try.ntmps8
  go_wp2_with (first
    | (at_builtin; refine wpList_append_run rfl _ _ 22 rfl _ _ _ _ rfl rfl hr1 ?_; clear hr1)
    | (at_builtin; refine wpList_append_run rfl _ _ 22 rfl _ _ _ _ rfl rfl hr3 ?_; clear hr3))
  go_ret
  exact ⟨g, cap, rfl, q1, hL, hk2⟩

end Go.Proofs.Ytmffkcbdgpaieaa
