
/- Walks of Info, Name, Named, Formed (package code). No statement of the seat is proved here. -/
import Derived.Test.YtijommlodgpphaaDoorCdA
namespace Go.Proofs.YtijommlodgpphaaDoor
open Go.RowKit

theorem parts_any (op : Int) (h0 : 1 ≤ op) (h1 : op ≤ 17) (w : World) : Calls Tryd.prog 20 #[.int .i64 op] w fun e w' => e = .returned (.int .i64 (partsN op)) ∧ w' = w := by
  have hr := regsN_le h0 h1
  have R := regs_any op h0 h1
  have N := number_any op h0 h1
  unfold partsN
  generalize numB op = nb at *
  generalize regsN op = r at *
  obtain ⟨hr, -⟩ := hr
  cases nb
  all_goals
    go_enter Tryd.func20, Tryd.ntmps20
    go_wp2_with (first | (go_at_call 27; refine (R _).mono ?_; rintro e w' ⟨rfl, rfl⟩) | (go_at_call 26; refine (N _).mono ?_; rintro e w' ⟨rfl, rfl⟩))
    go_ret
    exact ⟨by first | rfl | simp, rfl⟩

theorem name_yes (op : Int) (h0 : 1 ≤ op) (h1 : op ≤ 17) (w : World) (hn : Nms w) : Calls Tryd.prog 18 #[.int .i64 op] w fun e w' => e = .returned (.string (nm op.toNat)) ∧ w' = w := by
  obtain ⟨k, rfl⟩ : ∃ k : Nat, op = k := ⟨op.toNat, by omega⟩
  have hc := hn k (by omega)
  clear hn
  go_enter Tryd.func18, Tryd.ntmps18
  go_wp2_with (first | (go_at_call 19; refine (known_yes _ h0 h1 _).mono ?_; rintro e w' ⟨rfl, rfl⟩))
  go_ret
  exact ⟨rfl, rfl⟩
theorem name_no (op : Int) (h : op < 1 ∨ 17 < op) (w : World) : Calls Tryd.prog 18 #[.int .i64 op] w fun e w' => e = .returned (.string ⟨#[]⟩) ∧ w' = w := by
  go_enter Tryd.func18, Tryd.ntmps18
  go_wp2_with (first | (go_at_call 19; refine (known_no _ h _).mono ?_; rintro e w' ⟨rfl, rfl⟩))
  go_ret
  exact ⟨rfl, rfl⟩

set_option maxRecDepth 100000 in
theorem info_no (op : Int) (h : op < 1 ∨ 17 < op) (w : World) : Calls Tryd.prog 17 #[.int .i64 op] w fun e w' => e = .returned (.tuple #[.agg #[.int .i64 0, .bool false, .bool false, .bool false, .bool false], .bool false]) ∧ Keeps (fun _ => False) w w' := by
  have hk := (Keeps.refl (fun _ => False) w).alloc (.cells #[.int .i64 0, .bool false, .bool false, .bool false, .bool false] 52)
  go_enter Tryd.func17, Tryd.ntmps17
  go_wp2_with (first | (go_at_call 19; refine (known_no _ h _).mono ?_; rintro e w' ⟨rfl, rfl⟩))
  refine ⟨rfl, .tuple #[.agg #[.int .i64 0, .bool false, .bool false, .bool false, .bool false], .bool false], ?_, rfl, hk⟩
  simp [results, Tryd.f17, go_sem]

/-- What an operation is made of. -/
def formV (op : Int) : Array Value := #[.int .i64 (regsN op), .bool (numB op), .bool (tgtB op), .bool (outB op), .bool (insB op)]

set_option maxRecDepth 100000 in
theorem info_yes (op : Int) (h0 : 1 ≤ op) (h1 : op ≤ 17) (w : World) : Calls Tryd.prog 17 #[.int .i64 op] w fun e w' => e = .returned (.tuple #[.agg #[.int .i64 (regsN op), .bool (numB op), .bool (tgtB op), .bool (outB op), .bool (insB op)], .bool true]) ∧ Keeps (fun _ => False) w w' := by
  have hk := ((Keeps.refl (fun _ => False) w).alloc (.cells (formV op) 52)).alloc (.cells (formV op) 52)
  have R := regs_any op h0 h1
  have N := number_any op h0 h1
  have O := where_any op h0 h1
  have K := known_yes op h0 h1
  unfold formV at hk
  clear h0 h1
  generalize regsN op = r at *
  generalize numB op = nb at *
  generalize tgtB op = tb at *
  generalize outB op = ob at *
  generalize insB op = ib at *
  go_enter Tryd.func17, Tryd.ntmps17
  go_wp2_with (first | (go_at_call 19; refine (K _).mono ?_; rintro e w' ⟨rfl, rfl⟩) | (go_at_call 27; refine (R _).mono ?_; rintro e w' ⟨rfl, rfl⟩) | (go_at_call 26; refine (N _).mono ?_; rintro e w' ⟨rfl, rfl⟩) | (go_at_call 32; refine (O _).mono ?_; rintro e w' ⟨rfl, rfl⟩))
  refine ⟨rfl, .tuple #[.agg #[.int .i64 r, .bool nb, .bool tb, .bool ob, .bool ib], .bool true], ?_, rfl, hk⟩
  simp [results, Tryd.f17, go_sem]

/-- An instruction. -/
structure I5 where
  op : Int
  a : Int
  b : Int
  c : Int
  n : Int
@[reducible] def I5.cells (i : I5) : Array Value := #[.int .i64 i.op, .int .i64 i.a, .int .i64 i.b, .int .i64 i.c, .int .u64 i.n]
def okR (m k r : Int) : Bool := if k < m then decide (0 ≤ r ∧ r < 8) else decide (r = 0)
def formedB (i : I5) : Bool := decide (1 ≤ i.op ∧ i.op ≤ 17) && (numB i.op || decide (i.n = 0)) && okR (regsN i.op) 0 i.a && okR (regsN i.op) 1 i.b && okR (regsN i.op) 2 i.c

theorem okR_yes {m k r : Int} (h : okR m k r = true) : (k < m ∧ 0 ≤ r ∧ r < 8) ∨ (m ≤ k ∧ r = 0) := by
  unfold okR at h
  split at h
  · simp at h; left; omega
  · simp at h; right; omega
theorem okR_no {m k r : Int} (h : okR m k r = false) : (k < m ∧ 0 ≤ r ∧ 8 ≤ r) ∨ (k < m ∧ r < 0) ∨ (m ≤ k ∧ r ≠ 0) := by
  unfold okR at h
  split at h
  · simp at h; by_cases h2 : 0 ≤ r
    · left; have := h h2; omega
    · right; left; omega
  · simp at h; right; right; omega
@[go_sem] theorem idx0 (x y z : Int) (w : World) : (Instr.index 63 (.agg #[.int .i64 x, .int .i64 y, .int .i64 z]) (.int .i64 0)).run Tryd.prog w = .ok (.int .i64 x) w := by
  simp [Instr.index, asIntOf, run_underlying Tryd.underlying63, go_sem]
@[go_sem] theorem idx1 (x y z : Int) (w : World) : (Instr.index 63 (.agg #[.int .i64 x, .int .i64 y, .int .i64 z]) (.int .i64 1)).run Tryd.prog w = .ok (.int .i64 y) w := by
  simp [Instr.index, asIntOf, run_underlying Tryd.underlying63, go_sem]
@[go_sem] theorem idx2 (x y z : Int) (w : World) : (Instr.index 63 (.agg #[.int .i64 x, .int .i64 y, .int .i64 z]) (.int .i64 2)).run Tryd.prog w = .ok (.int .i64 z) w := by
  simp [Instr.index, asIntOf, run_underlying Tryd.underlying63, go_sem]
set_option maxRecDepth 100000 in
set_option maxHeartbeats 2000000 in
theorem formed_any (i : I5) (w : World) : Calls Tryd.prog 12 #[.agg i.cells] w fun e w' => e = .returned (.bool (formedB i)) ∧ Keeps (fun _ => False) w w' := by
  obtain ⟨op, a, b, c, n⟩ := i
  by_cases ho : 1 ≤ op ∧ op ≤ 17
  · have h0 := ho.1
    have h1 := ho.2
    have hk0 := (Keeps.refl (fun _ => False) w).alloc (.cells #[.int .i64 op, .int .i64 a, .int .i64 b, .int .i64 c, .int .u64 n] 38)
    have I := info_yes op h0 h1
    have F : formedB ⟨op, a, b, c, n⟩ = ((numB op || decide (n = 0)) && okR (regsN op) 0 a && okR (regsN op) 1 b && okR (regsN op) 2 c) := by simp [formedB, ho]
    rw [F]
    clear F ho h0 h1
    generalize ((regsN op : Nat) : Int) = r at *
    generalize numB op = nb at *
    generalize tgtB op = tb at *
    generalize outB op = ob at *
    generalize insB op = ib at *
    go_enter Tryd.func12, Tryd.ntmps12
    go_wp2_with fail
    refine (I _).mono ?_
    rintro e w1 ⟨rfl, k1⟩
    have hk1 := (hk0.trans k1).alloc (.cells #[.int .i64 r, .bool nb, .bool tb, .bool ob, .bool ib] 52)
    have hb : w1.heap[w.heap.size]? = some (.cells #[.int .i64 op, .int .i64 a, .int .i64 b, .int .i64 c, .int .u64 n] 38 (0, 0)) := (k1.block _ (by simp) (fun f => f)).trans (MapKept.heap_alloc _ _).1
    have hlt := lt_of_block hb
    have c1 : (w1.alloc (.cells #[.int .i64 r, .bool nb, .bool tb, .bool ob, .bool ib] 52)).cell? ⟨w.heap.size, 1, none⟩ = some (.int .i64 a) := by rw [World.cell?_alloc_old _ _ _ (Nat.ne_of_lt hlt), cell_of_block hb]; rfl
    have c2 : (w1.alloc (.cells #[.int .i64 r, .bool nb, .bool tb, .bool ob, .bool ib] 52)).cell? ⟨w.heap.size, 2, none⟩ = some (.int .i64 b) := by rw [World.cell?_alloc_old _ _ _ (Nat.ne_of_lt hlt), cell_of_block hb]; rfl
    have c3 : (w1.alloc (.cells #[.int .i64 r, .bool nb, .bool tb, .bool ob, .bool ib] 52)).cell? ⟨w.heap.size, 3, none⟩ = some (.int .i64 c) := by rw [World.cell?_alloc_old _ _ _ (Nat.ne_of_lt hlt), cell_of_block hb]; rfl
    have c4 : (w1.alloc (.cells #[.int .i64 r, .bool nb, .bool tb, .bool ob, .bool ib] 52)).cell? ⟨w.heap.size, 4, none⟩ = some (.int .u64 n) := by rw [World.cell?_alloc_old _ _ _ (Nat.ne_of_lt hlt), cell_of_block hb]; rfl
    clear I k1 hk0 hb hlt
    by_cases hnn : nb = false ∧ n ≠ 0
    · obtain ⟨rfl, hn⟩ := hnn
      go_wp2_with fail
      go_ret
      exact ⟨by simp [hn], hk1⟩
    · have hz : (nb || decide (n = 0)) = true := by cases nb <;> simp_all
      have hz2 : nb = true ∨ (nb = false ∧ n = 0) := by cases nb <;> simp_all
      clear hnn hz
      rcases hz2 with rfl | ⟨rfl, rfl⟩
      · go_wp2_with fail
        go_loopw [32] (fun v wr => wr = w1.alloc (.cells #[.int .i64 r, .bool true, .bool tb, .bool ob, .bool ib] 52) ∧ ((v = .int .i64 0) ∨ (v = .int .i64 1 ∧ okR r 0 a = true) ∨ (v = .int .i64 2 ∧ okR r 0 a = true ∧ okR r 1 b = true) ∨ (v = .int .i64 3 ∧ okR r 0 a = true ∧ okR r 1 b = true ∧ okR r 2 c = true))) (fun v _ => 3 - (intOf v).toNat)
        case atStart => exact ⟨rfl, .inl rfl⟩
        case round =>
          obtain ⟨rfl, rfl | ⟨rfl, g0⟩ | ⟨rfl, g0, g1⟩ | ⟨rfl, g0, g1, g2⟩⟩ := hrel
          · skip
            by_cases hq : okR r 0 a = true
            · rcases okR_yes hq with ⟨e1, e2, e3⟩ | ⟨e1, e2⟩
              · have f2 : ¬ a < 0 := by omega
                have f3 : ¬ 8 ≤ a := by omega
                have f1 : ¬ r ≤ 0 := by omega
                clear e1 e2 e3
                go_wp2_with fail
                go_roundw
                · exact ⟨by first | rfl | trivial, .inr (.inl ⟨rfl, hq⟩)⟩
                · decide
              · subst e2
                have f1 : r ≤ 0 := by omega
                clear e1
                go_wp2_with fail
                go_roundw
                · exact ⟨by first | rfl | trivial, .inr (.inl ⟨rfl, hq⟩)⟩
                · decide
            · have hf : okR r 0 a = false := by simpa using hq
              rcases okR_no hf with ⟨e1, e2, e3⟩ | ⟨e1, e2⟩ | ⟨e1, e2⟩
              · have f1 : ¬ r ≤ 0 := by omega
                have f2 : ¬ a < 0 := by omega
                clear hq e1 e2
                go_wp2_with fail
                go_ret
                exact ⟨by first | (simp; done) | simp [hf], hk1⟩
              · have f1 : ¬ r ≤ 0 := by omega
                clear hq e1
                go_wp2_with fail
                go_ret
                exact ⟨by first | (simp; done) | simp [hf], hk1⟩
              · have f1 : r ≤ 0 := by omega
                clear hq e1
                go_wp2_with fail
                go_ret
                exact ⟨by first | (simp; done) | simp [hf], hk1⟩
          · skip
            by_cases hq : okR r 1 b = true
            · rcases okR_yes hq with ⟨e1, e2, e3⟩ | ⟨e1, e2⟩
              · have f2 : ¬ b < 0 := by omega
                have f3 : ¬ 8 ≤ b := by omega
                have f1 : ¬ r ≤ 1 := by omega
                clear e1 e2 e3
                go_wp2_with fail
                go_roundw
                · exact ⟨by first | rfl | trivial, .inr (.inr (.inl ⟨rfl, g0, hq⟩))⟩
                · decide
              · subst e2
                have f1 : r ≤ 1 := by omega
                clear e1
                go_wp2_with fail
                go_roundw
                · exact ⟨by first | rfl | trivial, .inr (.inr (.inl ⟨rfl, g0, hq⟩))⟩
                · decide
            · have hf : okR r 1 b = false := by simpa using hq
              rcases okR_no hf with ⟨e1, e2, e3⟩ | ⟨e1, e2⟩ | ⟨e1, e2⟩
              · have f1 : ¬ r ≤ 1 := by omega
                have f2 : ¬ b < 0 := by omega
                clear hq e1 e2
                go_wp2_with fail
                go_ret
                exact ⟨by first | (simp; done) | simp [hf], hk1⟩
              · have f1 : ¬ r ≤ 1 := by omega
                clear hq e1
                go_wp2_with fail
                go_ret
                exact ⟨by first | (simp; done) | simp [hf], hk1⟩
              · have f1 : r ≤ 1 := by omega
                clear hq e1
                go_wp2_with fail
                go_ret
                exact ⟨by first | (simp; done) | simp [hf], hk1⟩
          · skip
            by_cases hq : okR r 2 c = true
            · rcases okR_yes hq with ⟨e1, e2, e3⟩ | ⟨e1, e2⟩
              · have f2 : ¬ c < 0 := by omega
                have f3 : ¬ 8 ≤ c := by omega
                have f1 : ¬ r ≤ 2 := by omega
                clear e1 e2 e3
                go_wp2_with fail
                go_roundw
                · exact ⟨by first | rfl | trivial, .inr (.inr (.inr ⟨rfl, g0, g1, hq⟩))⟩
                · decide
              · subst e2
                have f1 : r ≤ 2 := by omega
                clear e1
                go_wp2_with fail
                go_roundw
                · exact ⟨by first | rfl | trivial, .inr (.inr (.inr ⟨rfl, g0, g1, hq⟩))⟩
                · decide
            · have hf : okR r 2 c = false := by simpa using hq
              rcases okR_no hf with ⟨e1, e2, e3⟩ | ⟨e1, e2⟩ | ⟨e1, e2⟩
              · have f1 : ¬ r ≤ 2 := by omega
                have f2 : ¬ c < 0 := by omega
                clear hq e1 e2
                go_wp2_with fail
                go_ret
                exact ⟨by first | (simp; done) | simp [hf], hk1⟩
              · have f1 : ¬ r ≤ 2 := by omega
                clear hq e1
                go_wp2_with fail
                go_ret
                exact ⟨by first | (simp; done) | simp [hf], hk1⟩
              · have f1 : r ≤ 2 := by omega
                clear hq e1
                go_wp2_with fail
                go_ret
                exact ⟨by first | (simp; done) | simp [hf], hk1⟩
          · go_wp2_with fail
            go_ret
            exact ⟨by simp_all, hk1⟩
      · go_wp2_with fail
        go_loopw [32] (fun v wr => wr = w1.alloc (.cells #[.int .i64 r, .bool false, .bool tb, .bool ob, .bool ib] 52) ∧ ((v = .int .i64 0) ∨ (v = .int .i64 1 ∧ okR r 0 a = true) ∨ (v = .int .i64 2 ∧ okR r 0 a = true ∧ okR r 1 b = true) ∨ (v = .int .i64 3 ∧ okR r 0 a = true ∧ okR r 1 b = true ∧ okR r 2 c = true))) (fun v _ => 3 - (intOf v).toNat)
        case atStart => exact ⟨rfl, .inl rfl⟩
        case round =>
          obtain ⟨rfl, rfl | ⟨rfl, g0⟩ | ⟨rfl, g0, g1⟩ | ⟨rfl, g0, g1, g2⟩⟩ := hrel
          · skip
            by_cases hq : okR r 0 a = true
            · rcases okR_yes hq with ⟨e1, e2, e3⟩ | ⟨e1, e2⟩
              · have f2 : ¬ a < 0 := by omega
                have f3 : ¬ 8 ≤ a := by omega
                have f1 : ¬ r ≤ 0 := by omega
                clear e1 e2 e3
                go_wp2_with fail
                go_roundw
                · exact ⟨by first | rfl | trivial, .inr (.inl ⟨rfl, hq⟩)⟩
                · decide
              · subst e2
                have f1 : r ≤ 0 := by omega
                clear e1
                go_wp2_with fail
                go_roundw
                · exact ⟨by first | rfl | trivial, .inr (.inl ⟨rfl, hq⟩)⟩
                · decide
            · have hf : okR r 0 a = false := by simpa using hq
              rcases okR_no hf with ⟨e1, e2, e3⟩ | ⟨e1, e2⟩ | ⟨e1, e2⟩
              · have f1 : ¬ r ≤ 0 := by omega
                have f2 : ¬ a < 0 := by omega
                clear hq e1 e2
                go_wp2_with fail
                go_ret
                exact ⟨by first | (simp; done) | simp [hf], hk1⟩
              · have f1 : ¬ r ≤ 0 := by omega
                clear hq e1
                go_wp2_with fail
                go_ret
                exact ⟨by first | (simp; done) | simp [hf], hk1⟩
              · have f1 : r ≤ 0 := by omega
                clear hq e1
                go_wp2_with fail
                go_ret
                exact ⟨by first | (simp; done) | simp [hf], hk1⟩
          · skip
            by_cases hq : okR r 1 b = true
            · rcases okR_yes hq with ⟨e1, e2, e3⟩ | ⟨e1, e2⟩
              · have f2 : ¬ b < 0 := by omega
                have f3 : ¬ 8 ≤ b := by omega
                have f1 : ¬ r ≤ 1 := by omega
                clear e1 e2 e3
                go_wp2_with fail
                go_roundw
                · exact ⟨by first | rfl | trivial, .inr (.inr (.inl ⟨rfl, g0, hq⟩))⟩
                · decide
              · subst e2
                have f1 : r ≤ 1 := by omega
                clear e1
                go_wp2_with fail
                go_roundw
                · exact ⟨by first | rfl | trivial, .inr (.inr (.inl ⟨rfl, g0, hq⟩))⟩
                · decide
            · have hf : okR r 1 b = false := by simpa using hq
              rcases okR_no hf with ⟨e1, e2, e3⟩ | ⟨e1, e2⟩ | ⟨e1, e2⟩
              · have f1 : ¬ r ≤ 1 := by omega
                have f2 : ¬ b < 0 := by omega
                clear hq e1 e2
                go_wp2_with fail
                go_ret
                exact ⟨by first | (simp; done) | simp [hf], hk1⟩
              · have f1 : ¬ r ≤ 1 := by omega
                clear hq e1
                go_wp2_with fail
                go_ret
                exact ⟨by first | (simp; done) | simp [hf], hk1⟩
              · have f1 : r ≤ 1 := by omega
                clear hq e1
                go_wp2_with fail
                go_ret
                exact ⟨by first | (simp; done) | simp [hf], hk1⟩
          · skip
            by_cases hq : okR r 2 c = true
            · rcases okR_yes hq with ⟨e1, e2, e3⟩ | ⟨e1, e2⟩
              · have f2 : ¬ c < 0 := by omega
                have f3 : ¬ 8 ≤ c := by omega
                have f1 : ¬ r ≤ 2 := by omega
                clear e1 e2 e3
                go_wp2_with fail
                go_roundw
                · exact ⟨by first | rfl | trivial, .inr (.inr (.inr ⟨rfl, g0, g1, hq⟩))⟩
                · decide
              · subst e2
                have f1 : r ≤ 2 := by omega
                clear e1
                go_wp2_with fail
                go_roundw
                · exact ⟨by first | rfl | trivial, .inr (.inr (.inr ⟨rfl, g0, g1, hq⟩))⟩
                · decide
            · have hf : okR r 2 c = false := by simpa using hq
              rcases okR_no hf with ⟨e1, e2, e3⟩ | ⟨e1, e2⟩ | ⟨e1, e2⟩
              · have f1 : ¬ r ≤ 2 := by omega
                have f2 : ¬ c < 0 := by omega
                clear hq e1 e2
                go_wp2_with fail
                go_ret
                exact ⟨by first | (simp; done) | simp [hf], hk1⟩
              · have f1 : ¬ r ≤ 2 := by omega
                clear hq e1
                go_wp2_with fail
                go_ret
                exact ⟨by first | (simp; done) | simp [hf], hk1⟩
              · have f1 : r ≤ 2 := by omega
                clear hq e1
                go_wp2_with fail
                go_ret
                exact ⟨by first | (simp; done) | simp [hf], hk1⟩
          · go_wp2_with fail
            go_ret
            exact ⟨by simp_all, hk1⟩
  · have h : op < 1 ∨ 17 < op := by omega
    have F : formedB ⟨op, a, b, c, n⟩ = false := by simp [formedB, ho]
    rw [F]
    have hk0 := (Keeps.refl (fun _ => False) w).alloc (.cells #[.int .i64 op, .int .i64 a, .int .i64 b, .int .i64 c, .int .u64 n] 38)
    go_enter Tryd.func12, Tryd.ntmps12
    go_wp2_with fail
    refine (info_no _ h _).mono ?_
    rintro e w1 ⟨rfl, k1⟩
    have hk1 := (hk0.trans k1).alloc (.cells #[.int .i64 0, .bool false, .bool false, .bool false, .bool false] 52)
    go_wp2_with fail
    go_ret
    exact ⟨rfl, hk1⟩
end Go.Proofs.YtijommlodgpphaaDoor
