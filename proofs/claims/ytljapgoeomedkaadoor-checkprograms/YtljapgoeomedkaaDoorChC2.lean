
/- Walks of followers (package check). No statement of the seat is proved here. -/
import Derived.Test.YtljapgoeomedkaaDoorChC
import Derived.Test.YtljapgoeomedkaaDoorChB2
namespace Go.Proofs.YtljapgoeomedkaaDoor
open Go.RowKit Go.Shelf

set_option maxRecDepth 100000 in
set_option maxHeartbeats 2000000 in
theorem follow_halt (i : I5) (a : Nat) (ho : i.op = 17) (w : World) : Calls Tryd.prog 40 #[.agg i.cells, .int .i64 a] w (FPost i a w) := by
  have hF : (folL i a).map (fun (n : Nat) => (n : Int)) = Lib.compact (([] : List Int).mergeSort fun x y => decide (x ≤ y)) := by
    rw [none_sorted]; unfold folL; rw [if_pos ho]; rfl
  unfold FPost
  rw [hF]
  obtain ⟨op, ia, ib, ic, n⟩ := i
  dsimp only at ho
  subst ho
  go_enter Tryd.func40, Tryd.ntmps40
  go_wp2_with fail
  have k0 := (Keeps.refl (fun _ => False) w).alloc (.cells #[.int .i64 17, .int .i64 ia, .int .i64 ib, .int .i64 ic, .int .u64 n] 50)
  have h0 := (Its.nil w).keeps k0 (fun _ _ f => f)
  refine (sort_any h0 (by decide)).mono ?_
  rintro e w1 ⟨rfl, h1, g1⟩
  go_wp2_with fail
  refine (compact_any h1 (by simp)).mono ?_
  rintro e w2 ⟨v2, rfl, h2, g2⟩
  go_wp2_with fail
  go_ret
  exact ⟨v2, rfl, h2, Its.kept g2 (Its.kept g1 k0 h0) h1⟩

set_option maxRecDepth 100000 in
set_option maxHeartbeats 2000000 in
theorem follow_jump (i : I5) (hi : i.wf) (a : Nat) (ho : i.op = 8) (w : World) : Calls Tryd.prog 40 #[.agg i.cells, .int .i64 a] w (FPost i a w) := by
  have hF : (folL i a).map (fun (n : Nat) => (n : Int)) = Lib.compact (([min i.n 2147483647] : List Int).mergeSort fun x y => decide (x ≤ y)) := by
    rw [one_sorted]; unfold folL; rw [if_neg (by omega), if_pos (.inl ho)]; simp [tgt_int hi]
  unfold FPost
  rw [hF]
  clear hF
  have hn0 := hi.2.2.2.2.1
  have hn1 := hi.2.2.2.2.2
  obtain ⟨op, ia, ib, ic, n⟩ := i
  dsimp only at *
  subst ho
  have k0 := (Keeps.refl (fun _ => False) w).alloc (.cells #[.int .i64 8, .int .i64 ia, .int .i64 ib, .int .i64 ic, .int .u64 n] 50)
  have h0 := (Its.nil w).keeps k0 (fun _ _ f => f)
  obtain ⟨v1, w1, r1, h1, g1⟩ := h0.push (min n 2147483647) (by simp)
  rw [show (w.alloc (.cells #[.int .i64 8, .int .i64 ia, .int .i64 ib, .int .i64 ic, .int .u64 n] 50)).heap.size = w.heap.size + 1 by simp] at r1
  have HR : Hid (_ = _) := r1
  have K1 := Its.kept g1 k0 h0
  clear r1 h0 g1
  go_enter Tryd.func40, Tryd.ntmps40
  go_wp2_with (at_builtin; refine wpList_append_run rfl _ _ 53 rfl rfl rfl HR.out ?_)
  refine (sort_any h1 (by simp)).mono ?_
  rintro e w2 ⟨rfl, h2, g2⟩
  go_wp2_with fail
  refine (compact_any h2 (by simp)).mono ?_
  rintro e w3 ⟨v3, rfl, h3, g3⟩
  go_wp2_with fail
  go_ret
  exact ⟨v3, rfl, by simpa using h3, Its.kept g3 (Its.kept g2 K1 h1) h2⟩

set_option maxRecDepth 100000 in
set_option maxHeartbeats 2000000 in
theorem follow_abort (i : I5) (hi : i.wf) (a : Nat) (ho : i.op = 16) (w : World) : Calls Tryd.prog 40 #[.agg i.cells, .int .i64 a] w (FPost i a w) := by
  have hF : (folL i a).map (fun (n : Nat) => (n : Int)) = Lib.compact (([min i.n 2147483647] : List Int).mergeSort fun x y => decide (x ≤ y)) := by
    rw [one_sorted]; unfold folL; rw [if_neg (by omega), if_pos (.inr ho)]; simp [tgt_int hi]
  unfold FPost
  rw [hF]
  clear hF
  have hn0 := hi.2.2.2.2.1
  have hn1 := hi.2.2.2.2.2
  obtain ⟨op, ia, ib, ic, n⟩ := i
  dsimp only at *
  subst ho
  have k0 := (Keeps.refl (fun _ => False) w).alloc (.cells #[.int .i64 16, .int .i64 ia, .int .i64 ib, .int .i64 ic, .int .u64 n] 50)
  have h0 := (Its.nil w).keeps k0 (fun _ _ f => f)
  obtain ⟨v1, w1, r1, h1, g1⟩ := h0.push (min n 2147483647) (by simp)
  rw [show (w.alloc (.cells #[.int .i64 16, .int .i64 ia, .int .i64 ib, .int .i64 ic, .int .u64 n] 50)).heap.size = w.heap.size + 1 by simp] at r1
  have HR : Hid (_ = _) := r1
  have K1 := Its.kept g1 k0 h0
  clear r1 h0 g1
  go_enter Tryd.func40, Tryd.ntmps40
  go_wp2_with (at_builtin; refine wpList_append_run rfl _ _ 53 rfl rfl rfl HR.out ?_)
  refine (sort_any h1 (by simp)).mono ?_
  rintro e w2 ⟨rfl, h2, g2⟩
  go_wp2_with fail
  refine (compact_any h2 (by simp)).mono ?_
  rintro e w3 ⟨v3, rfl, h3, g3⟩
  go_wp2_with fail
  go_ret
  exact ⟨v3, rfl, by simpa using h3, Its.kept g3 (Its.kept g2 K1 h1) h2⟩

set_option maxRecDepth 100000 in
set_option maxHeartbeats 2000000 in
theorem follow_other (i : I5) (hi : i.wf) (a : Nat) (ha : a < 4611686018427387904) (h1 : i.op ≠ 17 ∧ i.op ≠ 8 ∧ i.op ≠ 16 ∧ i.op ≠ 9) (w : World) : Calls Tryd.prog 40 #[.agg i.cells, .int .i64 a] w (FPost i a w) := by
  have hF : (folL i a).map (fun (n : Nat) => (n : Int)) = Lib.compact (([(a : Int) + 1] : List Int).mergeSort fun x y => decide (x ≤ y)) := by
    rw [one_sorted]; unfold folL; rw [if_neg h1.1, if_neg (by omega), if_neg h1.2.2.2]; simp
  unfold FPost
  rw [hF]
  clear hF
  have hn0 := hi.2.2.2.2.1
  have hn1 := hi.2.2.2.2.2
  obtain ⟨op, ia, ib, ic, n⟩ := i
  dsimp only at *
  obtain ⟨q1, q2, q3, q4⟩ := h1
  have k0 := (Keeps.refl (fun _ => False) w).alloc (.cells #[.int .i64 op, .int .i64 ia, .int .i64 ib, .int .i64 ic, .int .u64 n] 50)
  have h0 := (Its.nil w).keeps k0 (fun _ _ f => f)
  obtain ⟨v1, w1, r1, h1, g1⟩ := h0.push ((a : Int) + 1) (by simp)
  rw [show (w.alloc (.cells #[.int .i64 op, .int .i64 ia, .int .i64 ib, .int .i64 ic, .int .u64 n] 50)).heap.size = w.heap.size + 1 by simp] at r1
  have HR : Hid (_ = _) := r1
  have K1 := Its.kept g1 k0 h0
  clear r1 h0 g1
  go_enter Tryd.func40, Tryd.ntmps40
  go_wp2_with (at_builtin; refine wpList_append_run rfl _ _ 53 rfl rfl rfl HR.out ?_)
  refine (sort_any h1 (by simp)).mono ?_
  rintro e w2 ⟨rfl, h2, g2⟩
  go_wp2_with fail
  refine (compact_any h2 (by simp)).mono ?_
  rintro e w3 ⟨v3, rfl, h3, g3⟩
  go_wp2_with fail
  go_ret
  exact ⟨v3, rfl, by simpa using h3, Its.kept g3 (Its.kept g2 K1 h1) h2⟩

set_option maxRecDepth 100000 in
set_option maxHeartbeats 2000000 in
theorem follow_zero (i : I5) (hi : i.wf) (a : Nat) (ha : a < 4611686018427387904) (ho : i.op = 9) (w : World) : Calls Tryd.prog 40 #[.agg i.cells, .int .i64 a] w (FPost i a w) := by
  have hF : (folL i a).map (fun (n : Nat) => (n : Int)) = Lib.compact (([(a : Int) + 1, min i.n 2147483647] : List Int).mergeSort fun x y => decide (x ≤ y)) := by
    rw [← fol_sorted i a ho, tgt_int hi]
  unfold FPost
  rw [hF]
  clear hF
  have hn0 := hi.2.2.2.2.1
  have hn1 := hi.2.2.2.2.2
  obtain ⟨op, ia, ib, ic, n⟩ := i
  dsimp only at *
  subst ho
  obtain ⟨w0, hw0⟩ : ∃ W, W = w.alloc (.cells #[.int .i64 9, .int .i64 ia, .int .i64 ib, .int .i64 ic, .int .u64 n] 50) := ⟨_, rfl⟩
  have k0 : Keeps (fun _ => False) w w0 := by rw [hw0]; exact (Keeps.refl (fun _ => False) w).alloc _
  have b0 : w0.heap[w.heap.size]? = some (.cells #[.int .i64 9, .int .i64 ia, .int .i64 ib, .int .i64 ic, .int .u64 n] 50 (0, 0)) := by rw [hw0]; exact (MapKept.heap_alloc _ _).1
  have e0 : w0.heap.size = w.heap.size + 1 := by rw [hw0]; simp
  have h0 := (Its.nil w).keeps k0 (fun _ _ f => f)
  obtain ⟨v1, w1, r1, h1, g1⟩ := h0.push ((a : Int) + 1) (by simp)
  have b1 := (g1.keeps.block _ (lt_of_block b0) (by simp [Value.ownBlock])).trans b0
  have c4 : w1.cell? ⟨w.heap.size, 4, none⟩ = some (.int .u64 n) := by rw [cell_of_block b1]; rfl
  obtain ⟨v2, w2, r2, h2, g2⟩ := h1.push (min n 2147483647) (by simp)
  rw [e0, hw0] at r1
  have HR : Hid (_ = _) := r1
  have HS : Hid (_ = _) := r2
  have K1 := Its.kept g1 k0 h0
  have K2 := Its.kept g2 K1 h1
  clear r1 r2 h0 g1 g2 b0 b1 hw0 k0 e0 K1
  go_enter Tryd.func40, Tryd.ntmps40
  go_wp2_with (at_builtin; first | (refine wpList_append_run rfl _ _ 53 rfl rfl rfl HR.out ?_; clear HR) | (refine wpList_append_run rfl _ _ 53 rfl rfl rfl HS.out ?_; clear HS))
  refine (sort_any h2 (by simp)).mono ?_
  rintro e w3 ⟨rfl, h3, g3⟩
  go_wp2_with fail
  refine (compact_any h3 (by simp)).mono ?_
  rintro e w4 ⟨v4, rfl, h4, g4⟩
  go_wp2_with fail
  go_ret
  exact ⟨v4, rfl, by simpa using h4, Its.kept g4 (Its.kept g3 K2 h2) h3⟩
theorem follow_any : FolOk := by
  intro i hi a ha w
  by_cases h1 : i.op = 17
  · exact follow_halt i a h1 w
  · by_cases h2 : i.op = 8
    · exact follow_jump i hi a h2 w
    · by_cases h3 : i.op = 16
      · exact follow_abort i hi a h3 w
      · by_cases h4 : i.op = 9
        · exact follow_zero i hi a ha h4 w
        · exact follow_other i hi a ha ⟨h1, h2, h3, h4⟩ w
end Go.Proofs.YtljapgoeomedkaaDoor
