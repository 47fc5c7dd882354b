
/- The statement's step (layer 20). No statement of the seat is proved here. -/
import Derived.Test.YthelfalmjihkdaaRmJ
namespace Go.Proofs.Ythelfalmjihkdaa
open Go.RowKit

set_option maxRecDepth 100000 in
set_option maxHeartbeats 4000000 in
theorem step_6 (t b g c b' g' c' : Nat) (s : Wd) (x y z : Int) (_hx : isW x) (hy : isW y) (hz : isW z) (w : World) (h : Bo w t b g c b' g' c' s s) :
    Calls Try.prog 5 #[.pointer (some ⟨t, 0, none⟩), .pointer (some ⟨b', 0, none⟩), .agg #[.int .i64 6, .int .u64 x, .int .u64 y, .int .u64 z]] w fun e w' => e = .returned (.bool true) ∧ ∃ s2, Bo w' t b g c b' g' c' s2 s2 ∧ Keeps (four b g b' g') w w' := by
  have HP := hid h.lt
  have HB0 : Hid (Bo (w.alloc (.cells #[.int .i64 6, .int .u64 x, .int .u64 y, .int .u64 z] 33)) t b g c b' g' c' s s) := h.new ((Keeps.refl _ w).alloc _)
  have HK0 : Hid (Keeps (four b g b' g') w (w.alloc (.cells #[.int .i64 6, .int .u64 x, .int .u64 y, .int .u64 z] 33))) := (Keeps.refl _ w).alloc _
  clear h
  have hln := HB0.out.rw.ok.2
  have hwl : IntKind.u64.wrap (s.W.length : Int) = (s.W.length : Int) := by rw [IntKind.wrap_u64]; omega
  unfold isW at hy
  have d2 : (w.alloc (.cells #[.int .i64 6, .int .u64 x, .int .u64 y, .int .u64 z] 33)).cell? ⟨w.heap.size, 2, none⟩ = some (.int .u64 y) := cell_of_block (alloc_block w _) 2
  have d3 : (w.alloc (.cells #[.int .i64 6, .int .u64 x, .int .u64 y, .int .u64 z] 33)).cell? ⟨w.heap.size, 3, none⟩ = some (.int .u64 z) := cell_of_block (alloc_block w _) 3
  obtain ⟨A, hA⟩ : ∃ A, (w.alloc (.cells #[.int .i64 6, .int .u64 x, .int .u64 y, .int .u64 z] 33)) = A := ⟨_, rfl⟩
  rw [hA] at HB0 HK0 d2 d3
  have HAA : Hid (_ = A) := hA
  clear hA
  have e0 := HB0.out.rw.cell0
  by_cases hlt : y < (s.W.length : Int)
  · have e1 := HB0.out.rw.wcell y.toNat (by omega)
    have e2 := HB0.out.rw.wfrozen y.toNat
    have f0 := HB0.out.tw.tx.cell
    have f1 := HB0.out.tw.wd.cell0
    have f2 := HB0.out.tw.wd.wcell y.toNat (by omega)
    have f3 := HB0.out.tw.wd.wfrozen y.toNat
    have a1 : t ≠ g' := HB0.out.tg
    have a2 : b ≠ g' := HB0.out.bg
    have a3 : g ≠ g' := HB0.out.gg
    have a4 : w.heap.size ≠ g' := by have q := HP.out; omega
    go_enter Try.func5, Try.ntmps5
    go_wp2_with fail
    rw [HAA.out]
    clear HAA
    go_quiet (fail)
    go_wp2_with fail
    refine wp_region_tail 8 (by kernel_rfl) (by kernel_rfl) ?_
    simp only [List.take_succ_cons, List.take_zero, List.drop_succ_cons, List.drop_zero]
    repeat (go_big_quiet_step (fail))
    refine wpQuiet_nil ?_
    intro _ hw'
    obtain ⟨n1, hw''⟩ := hw'
    subst hw''
    try simp only [World.drewN_drewN]
    go_wp2_with fail
    refine wp_region_tail 11 (by kernel_rfl) (by kernel_rfl) ?_
    simp only [List.take_succ_cons, List.take_zero, List.drop_succ_cons, List.drop_zero]
    repeat (go_big_quiet_step (fail))
    refine wpQuiet_nil ?_
    intro _ hw'
    obtain ⟨n2, hw''⟩ := hw'
    subst hw''
    try simp only [World.drewN_drewN]
    go_wp2_with fail
    go_ret
    have k1 : Keeps (two b' g') A _ := ((Keeps.refl (two b' g') A).drewN (nq + n1)).sg y.toNat (.int .u64 z)
    have B1 := HB0.out.ref ((HB0.out.rw.drewN (nq + n1)).store y.toNat hz (by omega)) k1
    have k2 : Keeps (two b g) _ _ := ((Keeps.refl (two b g) ((A.drewN (nq + n1)).setCell ⟨g', y.toNat, none⟩ (.int .u64 z))).drewN n2).sg y.toNat (.int .u64 z)
    exact ⟨rfl, _, B1.own (B1.tw.on k2 ((B1.tw.wd.drewN n2).store y.toNat hz (by omega))) k2, (HK0.out.f2 k1).f1 k2⟩
  · skip
    go_enter Try.func5, Try.ntmps5
    go_wp2_with fail
    rw [HAA.out]
    clear HAA
    go_quiet (fail)
    go_wp2_with fail
    go_ret
    exact ⟨rfl, _, HB0.out.new ((Keeps.refl _ _).drewN _), HK0.out.drewN _⟩
end Go.Proofs.Ythelfalmjihkdaa
