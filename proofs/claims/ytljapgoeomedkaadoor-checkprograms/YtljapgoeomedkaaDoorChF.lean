
/- Walks of standing, misplaced and mode (package check). No statement of the seat is proved here. -/
import Derived.Test.YtljapgoeomedkaaDoorChE
import Derived.Laws.ResultCell
import Derived.Laws.Rows
import Derived.Laws.Tables
namespace Go.Proofs.YtljapgoeomedkaaDoor
open Go.RowKit Go.Shelf

theorem info_any (op : Int) (w : World) : Calls Tryd.prog 45 #[.int .i64 op] w fun e w' => (∃ (r : Int) (nb : Bool), e = .returned (.tuple #[.agg #[.int .i64 r, .bool nb, .bool (tgtB op), .bool (outB op), .bool (insB op)], .bool (decide (1 ≤ op ∧ op ≤ 17))])) ∧ Keeps (fun _ => False) w w' := by
  by_cases h : 1 ≤ op ∧ op ≤ 17
  · refine (info_yes op h.1 h.2 w).mono fun e w' ⟨h1, h2⟩ => ⟨⟨regsN op, numB op, ?_⟩, h2⟩
    rw [h1, decide_eq_true h]
  · refine (info_no op (by omega) w).mono fun e w' ⟨h1, h2⟩ => ⟨⟨0, false, ?_⟩, h2⟩
    have e0 : tgtB op = false ∧ outB op = false ∧ insB op = false := by
      by_cases h0 : op ≤ 0
      · have : op.toNat = 0 := by omega
        unfold tgtB outB insB
        rw [this]
        exact ⟨rfl, rfl, rfl⟩
      · have : 18 ≤ op.toNat := by omega
        unfold tgtB outB insB
        rw [List.getElem?_eq_none (by simpa using this), List.getElem?_eq_none (by simpa using this), List.getElem?_eq_none (by simpa using this)]
        exact ⟨rfl, rfl, rfl⟩
    rw [h1, e0.1, e0.2.1, e0.2.2, decide_eq_false h]

/-- Where instructions may stand, as far as it is known. -/
def mayK (k : Nat) : Array Value := ((List.range 36).map fun j => Value.bool (decide (j / 2 < k) && (if j % 2 = 0 then outB (j / 2 : Nat) else insB (j / 2 : Nat)))).toArray

theorem Keeps.row {S : Nat → Prop} {w W : World} {b : Nat} (h : Keeps S w W) (hb : w.heap.size ≤ b) (cs : Array Value) : Keeps S w (W.setRow b cs) :=
  ⟨h.os, h.tape, h.output, by simpa [World.setRow] using h.size, fun k hk hs => by
    rw [← h.block k hk hs]
    simp [World.setRow, Array.getElem?_modify, show ¬ b = k by omega]⟩
theorem mayK_at {m : Nat} (h : m < 18) : (mayK 18)[m * 2]? = some (.bool (outB m)) ∧ (mayK 18)[m * 2 + 1]? = some (.bool (insB m)) := by
  have h1 : m * 2 < 36 := by omega
  have h2 : m * 2 + 1 < 36 := by omega
  have e1 : (m * 2 + 1) / 2 = m := by omega
  have e2 : (m * 2 + 1) % 2 = 1 := by omega
  constructor
  · simp [mayK, h1, h]
  · simp [mayK, h2, e1, e2, h]
    rw [show ((m : Int) * 2 + 1) / 2 = m by omega]
theorem mayK_zero : mayK 0 = #[.bool false, .bool false, .bool false, .bool false, .bool false, .bool false, .bool false, .bool false, .bool false, .bool false, .bool false, .bool false, .bool false, .bool false, .bool false, .bool false, .bool false, .bool false, .bool false, .bool false, .bool false, .bool false, .bool false, .bool false, .bool false, .bool false, .bool false, .bool false, .bool false, .bool false, .bool false, .bool false, .bool false, .bool false, .bool false, .bool false] := by kernel_rfl
theorem mayK_size (k : Nat) : (mayK k).size = 36 := by simp [mayK]
theorem mayK_step {k : Nat} (hk : k < 18) : ((mayK k).setIfInBounds (k * 2) (.bool (outB k))).setIfInBounds (k * 2 + 1) (.bool (insB k)) = mayK (k + 1) := by
  apply Array.ext_getElem?
  intro j
  rw [Array.getElem?_setIfInBounds, Array.getElem?_setIfInBounds]
  simp only [Array.size_setIfInBounds, mayK_size]
  by_cases h1 : k * 2 + 1 = j
  · subst h1
    have e1 : (k * 2 + 1) / 2 = k := by omega
    have e2 : (k * 2 + 1) % 2 = 1 := by omega
    rw [if_pos rfl, if_pos (by omega)]
    simp [mayK, show k * 2 + 1 < 36 by omega, e1, e2]
    rw [show ((k : Int) * 2 + 1) / 2 = k by omega]
  · rw [if_neg h1]
    by_cases h2 : k * 2 = j
    · subst h2
      rw [if_pos rfl, if_pos (by omega)]
      simp [mayK, show k * 2 < 36 by omega]
    · rw [if_neg h2]
      by_cases h3 : j < 36
      · have : decide (j / 2 < k) = decide (j / 2 < k + 1) := by
          rw [Bool.eq_iff_iff]; simp; omega
        simp [mayK, h3, this]
      · simp [mayK, h3]
theorem size_may : (Tryd.prog.info? 111).map (·.size) = some 36 := by kernel_rfl
theorem may_one (k : Nat) : (mayK k).all (·.oneCell') = true := by
  unfold mayK
  rw [List.all_toArray, List.all_eq_true]
  intro x hx
  obtain ⟨j, _, rfl⟩ := List.mem_map.1 hx
  rfl

set_option maxRecDepth 100000 in
set_option maxHeartbeats 2000000 in
theorem standing_any (w : World) : Calls Tryd.prog 58 #[] w fun e w' => e = .returned (.agg (mayK 18)) ∧ Keeps (fun _ => False) w w' := by
  have A0 := heap_alloc2_old w (.cells (mayK 0) 111) (.cells (mayK 0) 111)
  have A1 := heap_alloc2_new w (.cells (mayK 0) 111) (.cells (mayK 0) 111)
  have AK := ((Keeps.refl (fun _ => False) w).alloc (.cells (mayK 0) 111)).alloc (.cells (mayK 0) 111)
  rw [mayK_zero] at A0 A1 AK
  have HA : Hid (_ ∧ _ ∧ _) := ⟨A0, A1, AK⟩
  clear A0 A1 AK
  go_enter Tryd.func58, Tryd.ntmps58
  go_wp2_with fail
  go_loopw [5] (fun m wr => ∃ k : Nat, m = .int .i64 k ∧ k ≤ 18 ∧ Hid (Keeps (fun _ => False) w wr ∧ wr.heap[w.heap.size + 1]? = some (.cells (mayK k) 111 (0, 0)) ∧ wr.heap[w.heap.size]? = some (.cells (mayK 0) 111 (0, 0)))) (fun m _ => 18 - (intOf m).toNat)
  case atStart => exact ⟨0, rfl, by omega, ⟨HA.out.2.2, by rw [mayK_zero]; exact HA.out.2.1, by rw [mayK_zero]; exact HA.out.1⟩⟩
  case round =>
    clear HA
    obtain ⟨k, rfl, hk, hh⟩ := hrel
    by_cases hlt : k < 18
    · have hki : (k : Int) < 18 := by omega
      have IN := info_any k
      go_wp2_with fail
      refine (IN _).mono ?_
      rintro e w1 ⟨⟨r, nb, rfl⟩, k1⟩
      obtain ⟨hK, h1, h0⟩ := hh.out
      obtain ⟨W2, hW2⟩ : ∃ W, W = w1.alloc (.cells #[.int .i64 r, .bool nb, .bool (tgtB k), .bool (outB k), .bool (insB k)] 91) := ⟨_, rfl⟩
      have k2 : Keeps (fun _ => False) wr W2 := by rw [hW2]; exact k1.alloc _
      have b1 := (k2.block _ (lt_of_block h1) (fun f => f)).trans h1
      have b0 := (k2.block _ (lt_of_block h0) (fun f => f)).trans h0
      have K2 := hK.trans k2
      obtain ⟨x0, cx0⟩ : ∃ x, W2.cell? ⟨w.heap.size + 1, k * 2, none⟩ = some x := by
        rw [cell_of_block b1]
        exact ⟨_, Array.getElem?_eq_getElem (by rw [mayK_size]; omega)⟩
      have f0 := frozen_of_block b1 (k * 2)
      have b2 := block_set b1 (k * 2) (.bool (outB k))
      obtain ⟨x1, cx1⟩ : ∃ x, (W2.setCell ⟨w.heap.size + 1, k * 2, none⟩ (.bool (outB k))).cell? ⟨w.heap.size + 1, k * 2 + 1, none⟩ = some x := by
        rw [cell_of_block b2]
        exact ⟨_, Array.getElem?_eq_getElem (by simp [mayK_size]; omega)⟩
      have f1 := frozen_of_block b2 (k * 2 + 1)
      have b3 := block_set b2 (k * 2 + 1) (.bool (insB k))
      rw [mayK_step hlt] at b3
      have K3 := (K2.setCell (p := ⟨w.heap.size + 1, k * 2, none⟩) (.inl (by simp)) (.bool (outB k))).setCell (p := ⟨w.heap.size + 1, k * 2 + 1, none⟩) (.inl (by simp)) (.bool (insB k))
      have b4 : ((W2.setCell ⟨w.heap.size + 1, k * 2, none⟩ (.bool (outB k))).setCell ⟨w.heap.size + 1, k * 2 + 1, none⟩ (.bool (insB k))).heap[w.heap.size]? = some (.cells (mayK 0) 111 (0, 0)) := by
        rw [heap_setCell_other _ _ _ _ (by simp), heap_setCell_other _ _ _ _ (by simp)]
        exact b0
      rw [hW2] at b3 b4 K3 cx0 cx1 f0 f1
      have HB : Hid (_ ∧ _ ∧ _) := ⟨K3, b3, b4⟩
      clear hh hK h1 h0 k2 b1 b0 K2 b2 b3 K3 b4 hW2 k1 IN
      go_wp2_with fail
      go_roundw
      · exact ⟨k + 1, by simp, by omega, HB.out⟩
      · simp [intOf]; omega
    · have hki : ¬ (k : Int) < 18 := by omega
      obtain rfl : k = 18 := by omega
      obtain ⟨hK, h1, h0⟩ := hh.out
      clear hh
      go_wp2_with (first | (refine wpList_load_row rfl 111 _ rfl (w.heap.size + 1) rfl 111 (mayK 18) (0, 0) _ h1 Tryd.underlying111 rfl (by rw [size_may, mayK_size]) ?_) | (refine wpList_store_row rfl 111 _ _ rfl w.heap.size (mayK 18) rfl rfl 111 (mayK 0) h0 (by rw [size_may, mayK_size]) (by rw [mayK_size, mayK_size]) (may_one 18) ?_))
      refine bodyPost_ret (results_cell_row rfl _ _ w.heap.size 111 (mayK 18) (0, 0) _ rfl (setRow_heap _ _ _ _ _ _ h0) Tryd.underlying111 rfl (by rw [size_may, mayK_size])) rfl ?_
      exact ⟨rfl, hK.row (Nat.le_refl _) _⟩
end Go.Proofs.YtljapgoeomedkaaDoor
