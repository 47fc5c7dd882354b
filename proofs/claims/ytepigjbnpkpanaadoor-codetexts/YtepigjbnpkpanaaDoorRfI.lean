
/- CodeTexts' walk. No statement of the seat is proved here. -/
import Derived.Test.YtepigjbnpkpanaaDoorRfH
namespace Go.Proofs.YtepigjbnpkpanaaDoor
open Go.RowKit Go.Shelf

set_option maxRecDepth 100000 in
set_option maxHeartbeats 4000000 in
theorem texts_law (i : I5) (hn0 : 0 ≤ i.n) (hn : i.n < 18446744073709551616) (w : World) (hw : Gl w) (htab : Lib.TabIs Tryd.prog w "internal/strconv.uint64pow10" .u64 Lib.pow10Tab) :
    Calls Tryd.prog 4 #[.agg i.cells] w fun e w' => e = .returned (.bool true) ∧ Keeps (fun _ => False) w w' := by
  have FA := formed_any i
  have RF := rformed_any i
  cases hf : formedB i with
  | false =>
    rw [hf] at FA RF
    have TX := text_no i hf
    obtain ⟨op, a, b, c, n⟩ := i
    have k0 := (Keeps.refl (fun _ => False) w).alloc (.cells #[.int .i64 op, .int .i64 a, .int .i64 b, .int .i64 c, .int .u64 n] 38)
    change Calls Tryd.prog 4 #[.agg #[.int .i64 op, .int .i64 a, .int .i64 b, .int .i64 c, .int .u64 n]] w _
    go_enter Tryd.func4, Tryd.ntmps4
    go_wp2_with fail
    refine (TX _).mono ?_
    rintro e w1 ⟨rfl, k1⟩
    have b1 : w1.heap[w.heap.size]? = some (.cells #[.int .i64 op, .int .i64 a, .int .i64 b, .int .i64 c, .int .u64 n] 38 (0, 0)) := (k1.block _ (by simp) (fun f => f)).trans (MapKept.heap_alloc _ _).1
    obtain ⟨c0, c1, c2, c3, c4⟩ := cells5 b1
    go_wp2_with fail
    refine (RF _).mono ?_
    rintro e w2 ⟨rfl, k2⟩
    have b2 := (k2.block _ (lt_of_block b1) (fun f => f)).trans b1
    clear c0 c1 c2 c3 c4
    obtain ⟨c0, c1, c2, c3, c4⟩ := cells5 b2
    go_wp2_with fail
    refine (FA _).mono ?_
    rintro e w3 ⟨rfl, k3⟩
    have kk := ((k0.trans k1).trans k2).trans k3
    have W := works_any w3 (hw.keeps kk)
    clear c0 c1 c2 c3 c4 TX RF FA k0 k1 k2 k3 b1 b2
    go_wp2_with (first | (go_at_call 19; refine (num_any _ _).mono ?_; rintro e w' ⟨rfl, rfl⟩) | (go_at_call 15; refine W.mono ?_; rintro e w4 ⟨rfl, k4⟩))
    go_ret
    exact ⟨rfl, kk.trans k4⟩
  | true =>
    rw [hf] at FA RF
    have TX := text_yes i hf hn0 hn
    have PT := parse_text hf hn0 hn
    have TL := text_len hf hn0 hn
    have RT := rtext_any i hf hn0 hn
    generalize textL i = s at *
    have hss : (ByteArray.toList ⟨s.toArray⟩ == s) = true := by simp
    have PA := parse_any s TL
    unfold PPost at PA
    rw [PT] at PA
    obtain ⟨op, a, b, c, n⟩ := i
    have k0 := (Keeps.refl (fun _ => False) w).alloc (.cells #[.int .i64 op, .int .i64 a, .int .i64 b, .int .i64 c, .int .u64 n] 38)
    have TX1 := TX _ (hw.keeps k0).nms
    change Calls Tryd.prog 4 #[.agg #[.int .i64 op, .int .i64 a, .int .i64 b, .int .i64 c, .int .u64 n]] w _
    clear TX PT TL hf hn0 hn
    go_enter Tryd.func4, Tryd.ntmps4
    go_wp2_with fail
    refine TX1.mono ?_
    rintro e w1 ⟨rfl, k1⟩
    have b1 : w1.heap[w.heap.size]? = some (.cells #[.int .i64 op, .int .i64 a, .int .i64 b, .int .i64 c, .int .u64 n] 38 (0, 0)) := (k1.block _ (by simp) (fun f => f)).trans (MapKept.heap_alloc _ _).1
    obtain ⟨c0, c1, c2, c3, c4⟩ := cells5 b1
    go_wp2_with fail
    refine (RF _).mono ?_
    rintro e w2 ⟨rfl, k2⟩
    have b2 := (k2.block _ (lt_of_block b1) (fun f => f)).trans b1
    have kk2 := (k0.trans k1).trans k2
    have PA2 := PA w2 (hw.keeps kk2)
    clear c0 c1 c2 c3 c4 PA b1 TX1 RF k0 k1 k2
    go_wp2_with fail
    refine PA2.mono ?_
    rintro e w3 ⟨rfl, k3⟩
    have b3 := (k3.block _ (lt_of_block b2) (fun f => f)).trans b2
    have kA := (Keeps.refl (fun _ => False) w3).alloc (.cells #[.int .i64 op, .int .i64 a, .int .i64 b, .int .i64 c, .int .u64 n] 38)
    have d3 := (MapKept.heap_alloc w3 (.cells #[.int .i64 op, .int .i64 a, .int .i64 b, .int .i64 c, .int .u64 n] 38)).1
    have b4 := (kA.block _ (lt_of_block b3) (fun f => f)).trans b3
    have kk3 := (kk2.trans k3).trans kA
    obtain ⟨c0, c1, c2, c3, c4⟩ := cells5 b4
    clear PA2 b2 kk2 k3 kA
    go_wp2_with fail
    refine (FA _).mono ?_
    rintro e w5 ⟨rfl, k5⟩
    have b5 := (k5.block _ (lt_of_block b4) (fun f => f)).trans b4
    have d5 := (k5.block _ (lt_of_block d3) (fun f => f)).trans d3
    have kk5 := kk3.trans k5
    clear c0 c1 c2 c3 c4 kk3 k5 FA
    obtain ⟨c0, c1, c2, c3, c4⟩ := cells5 b5
    have RT5 := RT w5 (tab_keeps htab kk5)
    go_wp2_with fail
    refine RT5.mono ?_
    rintro e w6 ⟨rfl, k6⟩
    have b6 := (k6.block _ (lt_of_block b5) (fun f => f)).trans b5
    have d6 := (k6.block _ (lt_of_block d5) (fun f => f)).trans d5
    have kk6 := kk5.trans k6
    have W := works_any w6 (hw.keeps kk6)
    clear c0 c1 c2 c3 c4 RT RT5 b5 d5 b3 b4 d3 k6 kk5
    obtain ⟨c0, c1, c2, c3, c4⟩ := cells5 b6
    obtain ⟨d0, d1, d2, d3, d4⟩ := cells5 d6
    go_wp2_with (first | (go_at_call 19; refine (num_any _ _).mono ?_; rintro e w' ⟨rfl, rfl⟩) | (go_at_call 15; refine W.mono ?_; rintro e w7 ⟨rfl, k7⟩))
    go_ret
    exact ⟨rfl, kk6.trans k7⟩
end Go.Proofs.YtepigjbnpkpanaaDoor
