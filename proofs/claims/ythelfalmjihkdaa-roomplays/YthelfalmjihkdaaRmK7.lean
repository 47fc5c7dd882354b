
/- The statement's step (layer 20). No statement of the seat is proved here. -/
import Derived.Test.YthelfalmjihkdaaRmJ
namespace Go.Proofs.Ythelfalmjihkdaa
open Go.RowKit

set_option maxRecDepth 100000 in
set_option maxHeartbeats 4000000 in
theorem step_7 (t b g c b' g' c' : Nat) (s : Wd) (x y z : Int) (_hx : isW x) (_hy : isW y) (_hz : isW z) (w : World) (h : Bo w t b g c b' g' c' s s) :
    Calls Try.prog 5 #[.pointer (some ⟨t, 0, none⟩), .pointer (some ⟨b', 0, none⟩), .agg #[.int .i64 7, .int .u64 x, .int .u64 y, .int .u64 z]] w fun e w' => e = .returned (.bool true) ∧ ∃ s2, Bo w' t b g c b' g' c' s2 s2 ∧ Keeps (four b g b' g') w w' := by
  have HP := hid h.lt
  have HB0 : Hid (Bo (w.alloc (.cells #[.int .i64 7, .int .u64 x, .int .u64 y, .int .u64 z] 33)) t b g c b' g' c' s s) := h.new ((Keeps.refl _ w).alloc _)
  have HK0 : Hid (Keeps (four b g b' g') w (w.alloc (.cells #[.int .i64 7, .int .u64 x, .int .u64 y, .int .u64 z] 33))) := (Keeps.refl _ w).alloc _
  clear h
  have e0 := HB0.out.rw.cell1
  have e1 := HB0.out.rw.cell2
  have e2 := HB0.out.rw.frozen 1
  have e3 := HB0.out.rw.frozen 2
  have p1 : b' ≠ w.heap.size := by have q := HP.out; omega
  have hB1 : Bo (((w.alloc (.cells #[.int .i64 7, .int .u64 x, .int .u64 y, .int .u64 z] 33)).setCell ⟨b', 1, none⟩ (.int .i64 (wrap64 (y.tmod 20)))).setCell ⟨b', 2, none⟩ (.int .i64 (wrap64 (1 + wrap64 (z.tmod 300))))) t b g c b' g' c' s { s with l := (wrap64 (y.tmod 20)), c := (wrap64 (1 + wrap64 (z.tmod 300))) } := HB0.out.ref ((HB0.out.rw.left _).code _) (((Keeps.refl _ _).sb _ _).sb _ _)
  have hK1 : Keeps (four b g b' g') w (((w.alloc (.cells #[.int .i64 7, .int .u64 x, .int .u64 y, .int .u64 z] 33)).setCell ⟨b', 1, none⟩ (.int .i64 (wrap64 (y.tmod 20)))).setCell ⟨b', 2, none⟩ (.int .i64 (wrap64 (1 + wrap64 (z.tmod 300))))) := HK0.out.f2 (((Keeps.refl _ _).sb _ _).sb _ _)
  obtain ⟨A, hA⟩ : ∃ A, (((w.alloc (.cells #[.int .i64 7, .int .u64 x, .int .u64 y, .int .u64 z] 33)).setCell ⟨b', 1, none⟩ (.int .i64 (wrap64 (y.tmod 20)))).setCell ⟨b', 2, none⟩ (.int .i64 (wrap64 (1 + wrap64 (z.tmod 300))))) = A := ⟨_, rfl⟩
  rw [hA] at hB1 hK1
  have HAA : Hid (_ = A) := hA
  clear hA HB0 HK0
  have f0 := hB1.tw.tx.cell
  have f1 := hB1.tw.wd.frozen 1
  have f2 := hB1.tw.wd.frozen 2
  have g1 : A.cell? ⟨b', 1, none⟩ = some (.int .i64 (wrap64 (y.tmod 20))) := hB1.rw.cell1
  have g2 : A.cell? ⟨b', 2, none⟩ = some (.int .i64 (wrap64 (1 + wrap64 (z.tmod 300)))) := hB1.rw.cell2
  have f3 := hB1.tw.wd.cell1
  have f4 := hB1.tw.wd.cell2
  have a2 : b ≠ b' := hB1.bb
  have a3 : t ≠ b := hB1.tw.tx.ne
  have HB := hid hB1
  have HK := hid hK1
  clear hB1 hK1
  go_enter Try.func5, Try.ntmps5
  go_wp2_with fail
  rw [HAA.out]
  clear HAA e0 e1 e2 e3
  refine wp_region_tail 8 (by kernel_rfl) (by kernel_rfl) ?_
  simp only [List.take_succ_cons, List.take_zero, List.drop_succ_cons, List.drop_zero]
  repeat (go_big_quiet_step (fail))
  refine wpQuiet_nil ?_
  intro _ hw'
  obtain ⟨n1, hw''⟩ := hw'
  subst hw''
  try simp only [World.drewN_drewN]
  go_wp2_with fail
  refine wp_region_tail 8 (by kernel_rfl) (by kernel_rfl) ?_
  simp only [List.take_succ_cons, List.take_zero, List.drop_succ_cons, List.drop_zero]
  repeat (go_big_quiet_step (fail))
  refine wpQuiet_nil ?_
  intro _ hw'
  obtain ⟨n2, hw''⟩ := hw'
  subst hw''
  try simp only [World.drewN_drewN]
  go_wp2_with fail
  go_ret
  have kb : Keeps (two b g) A _ := (((((Keeps.refl (two b g) A).drewN n1).sb 1 (.int .i64 (wrap64 (y.tmod 20)))).drewN n2).sb 2 (.int .i64 (wrap64 (1 + wrap64 (z.tmod 300)))))
  exact ⟨rfl, _, HB.out.own (HB.out.tw.on kb ((((HB.out.tw.wd.drewN n1).left _).drewN n2).code _)) kb, HK.out.f1 kb⟩
end Go.Proofs.Ythelfalmjihkdaa
