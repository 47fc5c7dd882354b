
/- Walks of the document's Formed (package parleyref08). No statement of the seat is proved here. -/
import Derived.Test.YtijommlodgpphaaDoorRfD
namespace Go.Proofs.YtijommlodgpphaaDoor
open Go.RowKit Go.Shelf

theorem rregs_any (op a b c n : Int) (w : World) : Calls Tryd.prog 34 #[.agg #[.int .i64 op, .int .i64 a, .int .i64 b, .int .i64 c, .int .u64 n]] w fun e w' => e = .returned (.agg #[.int .i64 a, .int .i64 b, .int .i64 c]) ∧ Keeps (fun _ => False) w w' := by
  have hk := fun o o' => ((Keeps.refl (fun _ => False) w).alloc o).alloc o'
  go_enter Tryd.func34, Tryd.ntmps34
  go_wp2_with fail
  refine ⟨rfl, .agg #[.int .i64 a, .int .i64 b, .int .i64 c], ?_, rfl, hk _ _⟩
  simp [results, Tryd.f34, go_sem]

set_option maxRecDepth 100000 in
set_option maxHeartbeats 4000000 in
theorem rformed_at (op a b c n m : Int) (nb tb ob ib ok : Bool) (w : World)
    (I : ∀ w, Calls Tryd.prog 23 #[.int .i64 op] w fun e w' => e = .returned (.tuple #[.agg #[.int .i64 m, .bool nb, .bool tb, .bool ob, .bool ib], .bool ok]) ∧ Keeps (fun _ => False) w w') :
    Calls Tryd.prog 24 #[.agg #[.int .i64 op, .int .i64 a, .int .i64 b, .int .i64 c, .int .u64 n]] w fun e w' => e = .returned (.bool (okR m 0 a && okR m 1 b && okR m 2 c && (ok && (nb || decide (n = 0))))) ∧ Keeps (fun _ => False) w w' := by
  have hk0 := (Keeps.refl (fun _ => False) w).alloc (.cells #[.int .i64 op, .int .i64 a, .int .i64 b, .int .i64 c, .int .u64 n] 38)
  have RR := rregs_any op a b c n
  go_enter Tryd.func24, Tryd.ntmps24
  go_wp2_with fail
  refine (I _).mono ?_
  rintro e w1 ⟨rfl, k1⟩
  have hb : w1.heap[w.heap.size]? = some (.cells #[.int .i64 op, .int .i64 a, .int .i64 b, .int .i64 c, .int .u64 n] 38 (0, 0)) := (k1.block _ (by simp) (fun f => f)).trans (MapKept.heap_alloc _ _).1
  have k2 := (hk0.trans k1).alloc (.cells #[.int .i64 m, .bool nb, .bool tb, .bool ob, .bool ib] 52)
  have hb2 := ((MapKept.heap_alloc w1 (.cells #[.int .i64 m, .bool nb, .bool tb, .bool ob, .bool ib] 52)).2 _ (lt_of_block hb)).trans hb
  have hd2 := (MapKept.heap_alloc w1 (.cells #[.int .i64 m, .bool nb, .bool tb, .bool ob, .bool ib] 52)).1
  obtain ⟨c0, c1, c2, c3, c4⟩ := cells5 hb2
  clear I k1 hk0 hb
  go_wp2_with fail
  refine (RR _).mono ?_
  rintro e w3 ⟨rfl, k3⟩
  have hb3 := (k3.block _ (lt_of_block hb2) (fun f => f)).trans hb2
  have hd3 := (k3.block _ (lt_of_block hd2) (fun f => f)).trans hd2
  have hb4 := ((MapKept.heap_alloc w3 (.cells #[.int .i64 a, .int .i64 b, .int .i64 c] 63)).2 _ (lt_of_block hb3)).trans hb3
  have hd4 := ((MapKept.heap_alloc w3 (.cells #[.int .i64 a, .int .i64 b, .int .i64 c] 63)).2 _ (lt_of_block hd3)).trans hd3
  have hk1 := (k2.trans k3).alloc (.cells #[.int .i64 a, .int .i64 b, .int .i64 c] 63)
  obtain ⟨-, -, -, -, x4⟩ := cells5 hb4
  obtain ⟨y0, y1, -, -, -⟩ := cells5 hd4
  clear RR c0 c1 c2 c3 c4 hb2 hd2 hb3 hd3 hb4 hd4 k2 k3
  go_wp2_with fail
  go_loopw [6] (fun v wr => wr = w3.alloc (.cells #[.int .i64 a, .int .i64 b, .int .i64 c] 63) ∧ ((v = .int .i64 0) ∨ (v = .int .i64 1 ∧ okR m 0 a = true) ∨ (v = .int .i64 2 ∧ okR m 0 a = true ∧ okR m 1 b = true) ∨ (v = .int .i64 3 ∧ okR m 0 a = true ∧ okR m 1 b = true ∧ okR m 2 c = true))) (fun v _ => 3 - (intOf v).toNat)
  case atStart => exact ⟨rfl, .inl rfl⟩
  case round =>
    obtain ⟨rfl, rfl | ⟨rfl, g0⟩ | ⟨rfl, g0, g1⟩ | ⟨rfl, g0, g1, g2⟩⟩ := hrel
    · by_cases hq : okR m 0 a = true
      · rcases okR_yes hq with ⟨e1, e2, e3⟩ | ⟨e1, e2⟩
        · have f1 : 0 < m := e1
          have f2 : ¬ a < 0 := by omega
          have f3 : ¬ 8 ≤ a := by omega
          have f4 : ¬ m ≤ 0 := by omega
          clear e1 e2 e3
          go_wp2_with fail
          go_roundw
          · exact ⟨by first | rfl | trivial, .inr (.inl ⟨rfl, hq⟩)⟩
          · decide
        · subst e2
          have f1 : ¬ 0 < m := by omega
          have f4 : m ≤ 0 := e1
          clear e1
          go_wp2_with fail
          go_roundw
          · exact ⟨by first | rfl | trivial, .inr (.inl ⟨rfl, hq⟩)⟩
          · decide
      · have hf : okR m 0 a = false := by simpa using hq
        rcases okR_no hf with ⟨e1, e2, e3⟩ | ⟨e1, e2⟩ | ⟨e1, e2⟩
        · have f1 : 0 < m := e1
          have f2 : ¬ a < 0 := by omega
          clear hq e1 e2
          go_wp2_with fail
          go_ret
          exact ⟨by first | (simp; done) | simp [hf], hk1⟩
        · have f1 : 0 < m := e1
          clear hq e1
          go_wp2_with fail
          go_ret
          exact ⟨by first | (simp; done) | simp [hf], hk1⟩
        · have f1 : ¬ 0 < m := by omega
          have f4 : m ≤ 0 := e1
          clear hq e1
          go_wp2_with fail
          go_ret
          exact ⟨by first | (simp; done) | simp [hf], hk1⟩
    · by_cases hq : okR m 1 b = true
      · rcases okR_yes hq with ⟨e1, e2, e3⟩ | ⟨e1, e2⟩
        · have f1 : 1 < m := e1
          have f2 : ¬ b < 0 := by omega
          have f3 : ¬ 8 ≤ b := by omega
          have f4 : ¬ m ≤ 1 := by omega
          clear e1 e2 e3
          go_wp2_with fail
          go_roundw
          · exact ⟨by first | rfl | trivial, .inr (.inr (.inl ⟨rfl, g0, hq⟩))⟩
          · decide
        · subst e2
          have f1 : ¬ 1 < m := by omega
          have f4 : m ≤ 1 := e1
          clear e1
          go_wp2_with fail
          go_roundw
          · exact ⟨by first | rfl | trivial, .inr (.inr (.inl ⟨rfl, g0, hq⟩))⟩
          · decide
      · have hf : okR m 1 b = false := by simpa using hq
        rcases okR_no hf with ⟨e1, e2, e3⟩ | ⟨e1, e2⟩ | ⟨e1, e2⟩
        · have f1 : 1 < m := e1
          have f2 : ¬ b < 0 := by omega
          clear hq e1 e2
          go_wp2_with fail
          go_ret
          exact ⟨by first | (simp; done) | simp [hf], hk1⟩
        · have f1 : 1 < m := e1
          clear hq e1
          go_wp2_with fail
          go_ret
          exact ⟨by first | (simp; done) | simp [hf], hk1⟩
        · have f1 : ¬ 1 < m := by omega
          have f4 : m ≤ 1 := e1
          clear hq e1
          go_wp2_with fail
          go_ret
          exact ⟨by first | (simp; done) | simp [hf], hk1⟩
    · by_cases hq : okR m 2 c = true
      · rcases okR_yes hq with ⟨e1, e2, e3⟩ | ⟨e1, e2⟩
        · have f1 : 2 < m := e1
          have f2 : ¬ c < 0 := by omega
          have f3 : ¬ 8 ≤ c := by omega
          have f4 : ¬ m ≤ 2 := by omega
          clear e1 e2 e3
          go_wp2_with fail
          go_roundw
          · exact ⟨by first | rfl | trivial, .inr (.inr (.inr ⟨rfl, g0, g1, hq⟩))⟩
          · decide
        · subst e2
          have f1 : ¬ 2 < m := by omega
          have f4 : m ≤ 2 := e1
          clear e1
          go_wp2_with fail
          go_roundw
          · exact ⟨by first | rfl | trivial, .inr (.inr (.inr ⟨rfl, g0, g1, hq⟩))⟩
          · decide
      · have hf : okR m 2 c = false := by simpa using hq
        rcases okR_no hf with ⟨e1, e2, e3⟩ | ⟨e1, e2⟩ | ⟨e1, e2⟩
        · have f1 : 2 < m := e1
          have f2 : ¬ c < 0 := by omega
          clear hq e1 e2
          go_wp2_with fail
          go_ret
          exact ⟨by first | (simp; done) | simp [hf], hk1⟩
        · have f1 : 2 < m := e1
          clear hq e1
          go_wp2_with fail
          go_ret
          exact ⟨by first | (simp; done) | simp [hf], hk1⟩
        · have f1 : ¬ 2 < m := by omega
          have f4 : m ≤ 2 := e1
          clear hq e1
          go_wp2_with fail
          go_ret
          exact ⟨by first | (simp; done) | simp [hf], hk1⟩
    · cases ok
      · go_wp2_with fail
        go_ret
        exact ⟨by simp, hk1⟩
      · cases nb
        · by_cases hn : n = 0
          · subst hn
            go_wp2_with fail
            go_ret
            exact ⟨by simp_all, hk1⟩
          · have hn' : (n == 0) = false := by simpa using hn
            go_wp2_with fail
            go_ret
            exact ⟨by simp_all, hk1⟩
        · go_wp2_with fail
          go_ret
          exact ⟨by simp_all, hk1⟩

theorem rformed_any (i : I5) (w : World) : Calls Tryd.prog 24 #[.agg i.cells] w fun e w' => e = .returned (.bool (formedB i)) ∧ Keeps (fun _ => False) w w' := by
  obtain ⟨op, a, b, c, n⟩ := i
  by_cases ho : 1 ≤ op ∧ op ≤ 17
  · refine (rformed_at op a b c n _ _ _ _ _ _ w (rinfo_yes op ho.1 ho.2)).mono fun e w' ⟨h1, h2⟩ => ⟨?_, h2⟩
    rw [h1]
    congr 2
    simp only [formedB, ho, and_self, decide_true, Bool.true_and]
    cases (numB op || decide (n = 0)) <;> simp
  · have h : op < 1 ∨ 17 < op := by omega
    refine (rformed_at op a b c n _ _ _ _ _ _ w (rinfo_no op h)).mono fun e w' ⟨h1, h2⟩ => ⟨?_, h2⟩
    rw [h1]
    simp [formedB, ho]
end Go.Proofs.YtijommlodgpphaaDoor
