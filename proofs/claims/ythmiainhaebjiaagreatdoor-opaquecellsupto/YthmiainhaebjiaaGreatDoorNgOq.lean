import Derived.Test.YthmiainhaebjiaaGreatDoorM25OqA
import Derived.Test.YthmiainhaebjiaaGreatDoorNfEvDe
import Derived.Deep.QuietTactic
import Derived.BigQuiet

/- Walks of the document's wrong and SameSights (layer 16). No statement of the seat is proved here. -/
namespace Go.Proofs.YthmiainhaebjiaaGreatDoor
open Go.RowKit Go.Shelf

set_option maxRecDepth 100000 in
set_option maxHeartbeats 8000000 in
theorem rwrong_any (a e : Int) (w : World) : Calls Tryz.prog 25 #[.int .i64 a, .int .i64 e] w fun ex w' => ex = .returned (.agg #[.int .i64 a, .int .i64 e]) ∧ Keeps (fun _ => False) w w' := by
  have k0 := (Keeps.refl (fun _ => False) w).alloc (.cells #[.int .i64 a, .int .i64 e] 31)
  have b0 : (w.alloc (.cells #[.int .i64 a, .int .i64 e] 31)).heap[w.heap.size]? = some (.cells #[.int .i64 a, .int .i64 e] 31 (0, 0)) := (MapKept.heap_alloc w _).1
  go_enter Tryz.func25, Tryz.ntmps25
  go_wp2_with fail
  refine bodyPost_ret (odd_ret1 rfl _ _ w.heap.size #[.int .i64 a, .int .i64 e] b0 rfl rfl) rfl ?_
  exact ⟨rfl, k0⟩
end Go.Proofs.YthmiainhaebjiaaGreatDoor

/- A walk of the document's Wrong (layer 16). No statement of the seat is proved here. -/
namespace Go.Proofs.YthmiainhaebjiaaGreatDoor
open Go.RowKit Go.Shelf

/-- What is wrong with cells and a history. -/
def wrgB (n : Nat) (L : List Ev) : Int × Int := if idxF (missE n) L 0 = -1 then (-1, 0) else (idxF (missE n) L 0, 4)
def wrgA (n : Nat) (L : List Ev) : Int × Int := if idxF plainE L 0 = -1 then wrgB n L else (idxF plainE L 0, 260)
set_option maxRecDepth 100000 in
set_option maxHeartbeats 8000000 in
theorem rwrg_arg (va : Option Addr) (vc n : Nat) (h : n = 0 ∨ 65536 < n) (hn : n < 4611686018427387904) (v : Value) (w : World) : Calls Tryz.prog 23 #[.slice va n vc, v] w fun ex w' => ex = .returned (.agg (odV (-1) 2)) ∧ Keeps (fun _ => False) w w' := by
  have k0 := (Keeps.refl (fun _ => False) w).alloc (.cells #[.int .i64 0, .int .i64 0] 31)
  have b0 : (w.alloc (.cells #[.int .i64 0, .int .i64 0] 31)).heap[w.heap.size]? = some (.cells #[.int .i64 0, .int .i64 0] 31 (0, 0)) := (MapKept.heap_alloc w _).1
  have hw0 := lt_of_block b0
  have hB : Hid (_ = _) := b0
  have WR := rwrong_any (-1) 2 (w.alloc (.cells #[.int .i64 0, .int .i64 0] 31))
  have kr := k0
  unfold odV
  have HF : Hid ((0 : Int) = 0) := rfl
  clear b0
  by_cases h0 : n = 0
  · subst h0
    clear h
    go_enter Tryz.func23, Tryz.ntmps23
    go_wp2_with fail
    refine WR.mono ?_
    rintro ex w1 ⟨rfl, kz⟩
    clear WR
    have bO := (kz.block _ hw0 (fun f => f)).trans hB.out
    have c0 : w1.cell? ⟨w.heap.size, 0, none⟩ = some (.int .i64 0) := by rw [cell_of_block bO]; rfl
    have c1 : w1.cell? ⟨w.heap.size, 1, none⟩ = some (.int .i64 0) := by rw [cell_of_block bO]; rfl
    have f0 : w1.frozen? ⟨w.heap.size, 0, none⟩ = false := frozen_of_block bO _
    have f1 : w1.frozen? ⟨w.heap.size, 1, none⟩ = false := frozen_of_block bO _
    have BE := block_set (block_set bO 0 (.int .i64 (-1))) 1 (.int .i64 2)
    have KE := ((kr.trans kz).setCell (p := ⟨w.heap.size, 0, none⟩) (.inl (Nat.le_refl _)) (.int .i64 (-1))).setCell (p := ⟨w.heap.size, 1, none⟩) (.inl (Nat.le_refl _)) (.int .i64 2)
    clear bO
    go_wp2_with fail
    refine bodyPost_ret (odd_ret1 rfl _ _ w.heap.size #[.int .i64 (-1), .int .i64 2] BE rfl rfl) rfl ?_
    exact ⟨rfl, KE⟩
  · have h1 : ¬ ((n : Int) < 1) := by omega
    have h2 : (n : Int) > 65536 := by omega
    clear h h0
    go_enter Tryz.func23, Tryz.ntmps23
    go_wp2_with fail
    refine WR.mono ?_
    rintro ex w1 ⟨rfl, kz⟩
    clear WR
    have bO := (kz.block _ hw0 (fun f => f)).trans hB.out
    have c0 : w1.cell? ⟨w.heap.size, 0, none⟩ = some (.int .i64 0) := by rw [cell_of_block bO]; rfl
    have c1 : w1.cell? ⟨w.heap.size, 1, none⟩ = some (.int .i64 0) := by rw [cell_of_block bO]; rfl
    have f0 : w1.frozen? ⟨w.heap.size, 0, none⟩ = false := frozen_of_block bO _
    have f1 : w1.frozen? ⟨w.heap.size, 1, none⟩ = false := frozen_of_block bO _
    have BE := block_set (block_set bO 0 (.int .i64 (-1))) 1 (.int .i64 2)
    have KE := ((kr.trans kz).setCell (p := ⟨w.heap.size, 0, none⟩) (.inl (Nat.le_refl _)) (.int .i64 (-1))).setCell (p := ⟨w.heap.size, 1, none⟩) (.inl (Nat.le_refl _)) (.int .i64 2)
    clear bO
    go_wp2_with fail
    refine bodyPost_ret (odd_ret1 rfl _ _ w.heap.size #[.int .i64 (-1), .int .i64 2] BE rfl rfl) rfl ?_
    exact ⟨rfl, KE⟩
end Go.Proofs.YthmiainhaebjiaaGreatDoor

/- A walk of the document's Wrong, its loops (layer 16). No statement of the seat is proved here. -/
namespace Go.Proofs.YthmiainhaebjiaaGreatDoor
open Go.RowKit Go.Shelf

set_option maxRecDepth 100000 in
set_option maxHeartbeats 8000000 in
theorem rwrg_ok (va : Option Addr) (vc n : Nat) (h0 : 0 < n) (h1 : n ≤ 65536) (v : Value) (L : List Ev) (hL : L.length ≤ 1100000) (hz : checkL L = (-1, 0)) (w : World) (hv : EvsAt w v L) : Calls Tryz.prog 23 #[.slice va n vc, v] w fun ex w' => ex = .returned (.agg #[.int .i64 (wrgA n L).1, .int .i64 (wrgA n L).2]) ∧ Keeps (fun _ => False) w w' := by
  have k0 := (Keeps.refl (fun _ => False) w).alloc (.cells #[.int .i64 0, .int .i64 0] 31)
  have b0 : (w.alloc (.cells #[.int .i64 0, .int .i64 0] 31)).heap[w.heap.size]? = some (.cells #[.int .i64 0, .int .i64 0] 31 (0, 0)) := (MapKept.heap_alloc w _).1
  have RC := rcheck_any v L _ (hv.keeps k0)
  rw [hz] at RC
  unfold odV at RC
  dsimp only at RC
  have HV : Hid (∀ X, Keeps (fun _ => False) w X → ElsAt Ev.cl 6 X v L) := fun X k => hv.els.keeps ev_ne k
  obtain ⟨a1, cap1, rfl, hcap⟩ := hv.els.shape
  have hn1 : ¬ ((n : Int) < 1) := by omega
  have hn2 : ¬ ((n : Int) > 65536) := by omega
  have hnw : IntKind.u64.wrap (n : Int) = n := by rw [IntKind.wrap_u64]; omega
  obtain ⟨z, hzz⟩ : ∃ z, z = wrgA n L := ⟨_, rfl⟩
  rw [← hzz]
  have HZ : Hid (z = if idxF plainE (L.drop 0) 0 = -1 then wrgB n L else (idxF plainE (L.drop 0) 0, 260)) := hzz
  clear hzz hv hz
  go_enter Tryz.func23, Tryz.ntmps23
  go_wp2_with fail
  refine RC.mono ?_
  rintro ex w1 ⟨rfl, k1⟩
  clear RC
  have b1 := (k1.block _ (lt_of_block b0) (fun f => f)).trans b0
  have kA := (Keeps.refl (fun _ => False) w1).alloc (.cells #[.int .i64 (-1), .int .i64 0] 31)
  have b2 := (kA.block _ (lt_of_block b1) (fun f => f)).trans b1
  have K2 := (k0.trans k1).trans kA
  have HB2 : Hid (_ = _) := b2
  clear b0 b1 b2 kA k0 k1
  go_wp2_with fail
  generalize w1.alloc (.cells #[.int .i64 (-1), .int .i64 0] 31) = A at *
  go_loopw [6] (fun u wr => ∃ k : Nat, u = .int .i64 k ∧ k ≤ L.length ∧ Hid (z = if idxF plainE (L.drop k) k = -1 then wrgB n L else (idxF plainE (L.drop k) k, 260)) ∧ Hid (wr.heap[w.heap.size]? = some (.cells #[.int .i64 0, .int .i64 0] 31 (0, 0))) ∧ Keeps (fun _ => False) w wr) (fun u _ => L.length - (intOf u).toNat)
  case atStart => exact ⟨0, rfl, Nat.zero_le _, HZ, HB2, K2⟩
  case round =>
    clear HZ HB2 K2
    obtain ⟨k, rfl, hk, hh, hB, kr⟩ := hrel
    have hw0 := lt_of_block hB.out
    by_cases hlt : k < L.length
    · have hki : (k : Int) < L.length := by omega
      have hk0 : (0 : Int) ≤ k := by omega
      obtain ⟨g, off, rfl, hc⟩ := (HV.out wr kr).at k hlt
      have hst := hh.out
      rw [List.drop_eq_getElem_cons hlt, idxF] at hst
      generalize L[k]'hlt = e at *
      have x1 := hc 1 _ rfl
      clear hc hh
      by_cases hp : e.kd = 10 ∨ e.kd = 11
      · have HF0 : z = ((k : Int), 260) := by
          have hpl : plainE e = true := by unfold plainE; rcases hp with q | q <;> simp [q]
          simp only [hpl, if_true] at hst
          rw [if_neg (by omega)] at hst
          exact hst
        have HF : Hid (z = ((k : Int), 260)) := HF0
        clear HF0 hst
        rcases hp with hp | hp
        · rw [hp] at x1
          go_wp2_with fail
          refine (rwrong_any (k : Int) 260 wr).mono ?_
          rintro ex w3 ⟨rfl, kz⟩
          have bO := (kz.block _ hw0 (fun f => f)).trans hB.out
          have c0 : w3.cell? ⟨w.heap.size, 0, none⟩ = some (.int .i64 0) := by rw [cell_of_block bO]; rfl
          have c1 : w3.cell? ⟨w.heap.size, 1, none⟩ = some (.int .i64 0) := by rw [cell_of_block bO]; rfl
          have f0 : w3.frozen? ⟨w.heap.size, 0, none⟩ = false := frozen_of_block bO _
          have f1 : w3.frozen? ⟨w.heap.size, 1, none⟩ = false := frozen_of_block bO _
          have BE := block_set (block_set bO 0 (.int .i64 (k : Int))) 1 (.int .i64 260)
          have KE := ((kr.trans kz).setCell (p := ⟨w.heap.size, 0, none⟩) (.inl (Nat.le_refl _)) (.int .i64 (k : Int))).setCell (p := ⟨w.heap.size, 1, none⟩) (.inl (Nat.le_refl _)) (.int .i64 260)
          clear bO
          go_wp2_with fail
          refine bodyPost_ret (odd_ret1 rfl _ _ w.heap.size #[.int .i64 (k : Int), .int .i64 260] BE rfl rfl) rfl ?_
          exact ⟨by rw [HF.out], KE⟩
        · rw [hp] at x1
          go_wp2_with fail
          refine (rwrong_any (k : Int) 260 wr).mono ?_
          rintro ex w3 ⟨rfl, kz⟩
          have bO := (kz.block _ hw0 (fun f => f)).trans hB.out
          have c0 : w3.cell? ⟨w.heap.size, 0, none⟩ = some (.int .i64 0) := by rw [cell_of_block bO]; rfl
          have c1 : w3.cell? ⟨w.heap.size, 1, none⟩ = some (.int .i64 0) := by rw [cell_of_block bO]; rfl
          have f0 : w3.frozen? ⟨w.heap.size, 0, none⟩ = false := frozen_of_block bO _
          have f1 : w3.frozen? ⟨w.heap.size, 1, none⟩ = false := frozen_of_block bO _
          have BE := block_set (block_set bO 0 (.int .i64 (k : Int))) 1 (.int .i64 260)
          have KE := ((kr.trans kz).setCell (p := ⟨w.heap.size, 0, none⟩) (.inl (Nat.le_refl _)) (.int .i64 (k : Int))).setCell (p := ⟨w.heap.size, 1, none⟩) (.inl (Nat.le_refl _)) (.int .i64 260)
          clear bO
          go_wp2_with fail
          refine bodyPost_ret (odd_ret1 rfl _ _ w.heap.size #[.int .i64 (k : Int), .int .i64 260] BE rfl rfl) rfl ?_
          exact ⟨by rw [HF.out], KE⟩
      · have hp10 : (e.kd == 10) = false := by rw [beq_eq_false_iff_ne]; omega
        have hp11 : (e.kd == 11) = false := by rw [beq_eq_false_iff_ne]; omega
        have HF : Hid (z = if idxF plainE (L.drop (k + 1)) (k + 1) = -1 then wrgB n L else (idxF plainE (L.drop (k + 1)) (k + 1), 260)) := by
          have hpl : ¬ plainE e = true := by unfold plainE; rw [Bool.or_eq_true, decide_eq_true_eq, decide_eq_true_eq]; exact hp
          simp only [if_neg hpl] at hst
          exact hst
        clear hst
        go_wp2_with fail
        go_roundw
        · exact ⟨k + 1, by simp, by omega, HF, hB, kr⟩
        · simp [intOf]; omega
    · obtain rfl : k = L.length := by omega
      have HZ2 : Hid (z = if idxF (missE n) (L.drop 0) 0 = -1 then (-1, 0) else (idxF (missE n) (L.drop 0) 0, 4)) := by
        have := hh.out
        rw [List.drop_length, idxF, if_pos rfl] at this
        exact this
      have krr := kr
      have hBr := hB
      clear hh hw0 hlt
      go_wp2_with fail
      go_loopw [7] (fun u wr => ∃ k : Nat, u = .int .i64 k ∧ k ≤ L.length ∧ Hid (z = if idxF (missE n) (L.drop k) k = -1 then (-1, 0) else (idxF (missE n) (L.drop k) k, 4)) ∧ Hid (wr.heap[w.heap.size]? = some (.cells #[.int .i64 0, .int .i64 0] 31 (0, 0))) ∧ Keeps (fun _ => False) w wr) (fun u _ => L.length - (intOf u).toNat)
      case atStart => exact ⟨0, rfl, Nat.zero_le _, HZ2, hBr, krr⟩
      case round =>
        clear HZ2 hBr krr hB kr
        obtain ⟨j, rfl, hj, hh, hB, kr⟩ := hrel
        have hw0 := lt_of_block hB.out
        by_cases hlt : j < L.length
        · have hki : (j : Int) < L.length := by omega
          have hk0 : (0 : Int) ≤ j := by omega
          obtain ⟨g, off, rfl, hc⟩ := (HV.out wr kr).at j hlt
          have hst := hh.out
          rw [List.drop_eq_getElem_cons hlt, idxF] at hst
          generalize L[j]'hlt = e at *
          have x1 := hc 1 _ rfl
          have x2 := hc 2 _ rfl
          clear hc hh
          by_cases hq : e.kd = 2 ∨ e.kd = 3
          · by_cases hd : e.ad < n
            · have hdg : ¬ (e.ad ≥ (n : Int)) := by omega
              have HF : Hid (z = if idxF (missE n) (L.drop (j + 1)) (j + 1) = -1 then (-1, 0) else (idxF (missE n) (L.drop (j + 1)) (j + 1), 4)) := by
                have hpl : ¬ missE n e = true := by unfold missE; simp [hd]
                simp only [if_neg hpl] at hst
                exact hst
              clear hst
              rcases hq with hq | hq
              all_goals
                rw [hq] at x1
                go_wp2_with fail
                go_roundw
                · exact ⟨j + 1, by simp, by omega, HF, hB, kr⟩
                · simp [intOf]; omega
            · have hdg : e.ad ≥ (n : Int) := by omega
              have HF0 : z = ((j : Int), 4) := by
                have hpl : missE n e = true := by unfold missE; rcases hq with q | q <;> simp [q, hd]
                simp only [hpl, if_true] at hst
                rw [if_neg (by omega)] at hst
                exact hst
              have HF : Hid (z = ((j : Int), 4)) := HF0
              clear HF0 hst
              rcases hq with hq | hq
              all_goals
                rw [hq] at x1
                go_wp2_with fail
                refine (rwrong_any (j : Int) 4 wr).mono ?_
                rintro ex w3 ⟨rfl, kz⟩
                have bO := (kz.block _ hw0 (fun f => f)).trans hB.out
                have c0 : w3.cell? ⟨w.heap.size, 0, none⟩ = some (.int .i64 0) := by rw [cell_of_block bO]; rfl
                have c1 : w3.cell? ⟨w.heap.size, 1, none⟩ = some (.int .i64 0) := by rw [cell_of_block bO]; rfl
                have f0 : w3.frozen? ⟨w.heap.size, 0, none⟩ = false := frozen_of_block bO _
                have f1 : w3.frozen? ⟨w.heap.size, 1, none⟩ = false := frozen_of_block bO _
                have BE := block_set (block_set bO 0 (.int .i64 (j : Int))) 1 (.int .i64 4)
                have KE := ((kr.trans kz).setCell (p := ⟨w.heap.size, 0, none⟩) (.inl (Nat.le_refl _)) (.int .i64 (j : Int))).setCell (p := ⟨w.heap.size, 1, none⟩) (.inl (Nat.le_refl _)) (.int .i64 4)
                clear bO
                go_wp2_with fail
                refine bodyPost_ret (odd_ret1 rfl _ _ w.heap.size #[.int .i64 (j : Int), .int .i64 4] BE rfl rfl) rfl ?_
                exact ⟨by rw [HF.out], KE⟩
          · have hq2 : (e.kd == 2) = false := by rw [beq_eq_false_iff_ne]; omega
            have hq3 : (e.kd == 3) = false := by rw [beq_eq_false_iff_ne]; omega
            have HF : Hid (z = if idxF (missE n) (L.drop (j + 1)) (j + 1) = -1 then (-1, 0) else (idxF (missE n) (L.drop (j + 1)) (j + 1), 4)) := by
              have hpl : ¬ missE n e = true := by unfold missE; obtain ⟨q1, q2⟩ := not_or.1 hq; simp [q1, q2]
              simp only [if_neg hpl] at hst
              exact hst
            clear hst
            go_wp2_with fail
            go_roundw
            · exact ⟨j + 1, by simp, by omega, HF, hB, kr⟩
            · simp [intOf]; omega
        · obtain rfl : j = L.length := by omega
          have HF : Hid (z = (-1, 0)) := by
            have := hh.out
            rw [List.drop_length, idxF, if_pos rfl] at this
            exact this
          clear hh
          go_wp2_with fail
          refine (rwrong_any (-1) 0 wr).mono ?_
          rintro ex w3 ⟨rfl, kz⟩
          have bO := (kz.block _ hw0 (fun f => f)).trans hB.out
          have c0 : w3.cell? ⟨w.heap.size, 0, none⟩ = some (.int .i64 0) := by rw [cell_of_block bO]; rfl
          have c1 : w3.cell? ⟨w.heap.size, 1, none⟩ = some (.int .i64 0) := by rw [cell_of_block bO]; rfl
          have f0 : w3.frozen? ⟨w.heap.size, 0, none⟩ = false := frozen_of_block bO _
          have f1 : w3.frozen? ⟨w.heap.size, 1, none⟩ = false := frozen_of_block bO _
          have BE := block_set (block_set bO 0 (.int .i64 (-1))) 1 (.int .i64 0)
          have KE := ((kr.trans kz).setCell (p := ⟨w.heap.size, 0, none⟩) (.inl (Nat.le_refl _)) (.int .i64 (-1))).setCell (p := ⟨w.heap.size, 1, none⟩) (.inl (Nat.le_refl _)) (.int .i64 0)
          clear bO
          go_wp2_with fail
          refine bodyPost_ret (odd_ret1 rfl _ _ w.heap.size #[.int .i64 (-1), .int .i64 0] BE rfl rfl) rfl ?_
          exact ⟨by rw [HF.out], KE⟩
end Go.Proofs.YthmiainhaebjiaaGreatDoor

/- A walk of the document's Wrong where the history can not be (layer 16). No statement of the seat is proved here. -/
namespace Go.Proofs.YthmiainhaebjiaaGreatDoor
open Go.RowKit Go.Shelf

set_option maxRecDepth 100000 in
set_option maxHeartbeats 8000000 in
theorem rwrg_odd (va : Option Addr) (vc n : Nat) (h0 : 0 < n) (h1 : n ≤ 65536) (v : Value) (L : List Ev) (hz : (checkL L).2 ≠ 0) (w : World) (hv : EvsAt w v L) : Calls Tryz.prog 23 #[.slice va n vc, v] w fun ex w' => ex = .returned (.agg #[.int .i64 (checkL L).1, .int .i64 (checkL L).2]) ∧ Keeps (fun _ => False) w w' := by
  have k0 := (Keeps.refl (fun _ => False) w).alloc (.cells #[.int .i64 0, .int .i64 0] 31)
  have b0 : (w.alloc (.cells #[.int .i64 0, .int .i64 0] 31)).heap[w.heap.size]? = some (.cells #[.int .i64 0, .int .i64 0] 31 (0, 0)) := (MapKept.heap_alloc w _).1
  have RC := rcheck_any v L _ (hv.keeps k0)
  unfold odV at RC
  obtain ⟨a1, cap1, rfl, hcap⟩ := hv.els.shape
  generalize checkL L = cl at *
  obtain ⟨ca, ce⟩ := cl
  dsimp only at hz RC ⊢
  have hn1 : ¬ ((n : Int) < 1) := by omega
  have hn2 : ¬ ((n : Int) > 65536) := by omega
  have hzb : (ce == 0) = false := by rw [beq_eq_false_iff_ne]; exact hz
  have hzn : (ce != 0) = true := by rw [bne_iff_ne]; exact hz
  clear hv
  go_enter Tryz.func23, Tryz.ntmps23
  go_wp2_with fail
  refine RC.mono ?_
  rintro ex w1 ⟨rfl, k1⟩
  clear RC
  have b1 := (k1.block _ (lt_of_block b0) (fun f => f)).trans b0
  have BE0 := block_set (block_set b1 0 (.int .i64 ca)) 1 (.int .i64 ce)
  have kE := (Keeps.refl (fun _ => False) ((w1.setCell ⟨w.heap.size, 0, none⟩ (.int .i64 ca)).setCell ⟨w.heap.size, 1, none⟩ (.int .i64 ce))).alloc (.cells #[.int .i64 ca, .int .i64 ce] 31)
  have BE := (kE.block _ (lt_of_block BE0) (fun f => f)).trans BE0
  have KE := (((k0.trans k1).setCell (p := ⟨w.heap.size, 0, none⟩) (.inl (Nat.le_refl _)) (.int .i64 ca)).setCell (p := ⟨w.heap.size, 1, none⟩) (.inl (Nat.le_refl _)) (.int .i64 ce)).trans kE
  have c0 : w1.cell? ⟨w.heap.size, 0, none⟩ = some (.int .i64 0) := by rw [cell_of_block b1]; rfl
  have c1 : w1.cell? ⟨w.heap.size, 1, none⟩ = some (.int .i64 0) := by rw [cell_of_block b1]; rfl
  have f0 : w1.frozen? ⟨w.heap.size, 0, none⟩ = false := frozen_of_block b1 _
  have f1 : w1.frozen? ⟨w.heap.size, 1, none⟩ = false := frozen_of_block b1 _
  have hlt1 := lt_of_block b1
  have hne : ¬ w.heap.size = w1.heap.size := by omega
  have HE : Hid (_ = _) := BE
  clear BE BE0 b0 b1 kE k0 k1
  go_wp2_with fail
  refine bodyPost_ret (odd_ret1 rfl _ _ w.heap.size #[.int .i64 ca, .int .i64 ce] HE.out rfl rfl) rfl ?_
  exact ⟨rfl, KE⟩
end Go.Proofs.YthmiainhaebjiaaGreatDoor
