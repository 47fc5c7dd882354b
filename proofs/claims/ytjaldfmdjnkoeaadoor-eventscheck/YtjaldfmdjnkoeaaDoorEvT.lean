
/- The document's example: walk of known (package parleylaw13). No statement of the seat is proved here. -/
import Derived.Test.YtjaldfmdjnkoeaaDoorEvS
namespace Go.Proofs.YtjaldfmdjnkoeaaDoor
open Go.RowKit Go.Shelf

set_option maxRecDepth 100000 in
set_option maxHeartbeats 1000000 in
theorem known_any (w : World) (hg : Gv w) (h8 : 8 ≤ w.heap.size) : Calls Tryd.prog 24 #[] w fun ex w' => ex = .returned (.bool true) ∧ Keeps (fun _ => False) w w' := by
  have HG : Hid (∀ X, Keeps (fun _ => False) w X → Gv X ∧ 8 ≤ X.heap.size) := fun X k => ⟨hg.keeps k, Nat.le_trans h8 k.size⟩
  have TR := sec_tr
  have TX := sec_tx
  have P1 := sec_p1
  have P2 := sec_p2
  have k0 := Keeps.refl (fun _ => False) w
  have S2 := second_any
  have NN := num_any
  clear hg h8
  go_enter Tryd.func24, Tryd.ntmps24
  go_wp2_with fail
  refine (S2 _).mono ?_
  rintro ex w1 ⟨rfl, e1, k1⟩
  go_wp2_with fail
  refine (TR _ _ e1 (HG.out _ k1).1 (HG.out _ k1).2).mono ?_
  rintro ex w2 ⟨tv, rfl, o2, k2⟩
  have K2 := k1.trans k2
  obtain ⟨tb, tc, hv⟩ := o2.form
  have hv2 : tv = .slice tb 2 tc := hv
  subst hv2
  clear hv e1 k1 k2 TR
  have ka := (Keeps.refl (fun _ => False) w2).alloc (.cells #[.int .i64 (-1), .int .i64 0] 27)
  have ba := (MapKept.heap_alloc w2 (.cells #[.int .i64 (-1), .int .i64 0] 27)).1
  have K3 := K2.trans ka
  go_wp2_with fail
  refine (S2 _).mono ?_
  rintro ex w3 ⟨rfl, e3, k3⟩
  have K4 := K3.trans k3
  have e3' := ElsAt.cut1 e3
  rw [show (w2.alloc (.cells #[.int .i64 (-1), .int .i64 0] 27)).heap.size = w2.heap.size + 1 by simp] at e3'
  clear e3
  go_wp2_with fail
  refine (TX _ _ e3' (HG.out _ K4).1 (HG.out _ K4).2).mono ?_
  rintro ex w4 ⟨rfl, k4⟩
  have K5 := K4.trans k4
  go_wp2_with fail
  refine (P1 _ (HG.out _ K5).1 (HG.out _ K5).2).mono ?_
  rintro ex w5 ⟨v5, rfl, o5, k5⟩
  have K6 := K5.trans k5
  obtain ⟨tb5, tc5, hv⟩ := o5.form
  have hv5 : v5 = .slice tb5 1 tc5 := hv
  subst hv5
  clear hv
  go_wp2_with fail
  refine (P2 _ (HG.out _ K6).1 (HG.out _ K6).2).mono ?_
  rintro ex w6 ⟨v6, rfl, o6, k6⟩
  have K7 := K6.trans k6
  have KK := ((ka.trans k3).trans k4).trans (k5.trans k6)
  have bo := (((k3.trans k4).trans (k5.trans k6)).block _ (lt_of_block ba) (fun f => f)).trans ba
  have c0 : w6.cell? ⟨w2.heap.size, 0, none⟩ = some (.int .i64 (-1)) := by rw [cell_of_block bo]; rfl
  have c1 : w6.cell? ⟨w2.heap.size, 1, none⟩ = some (.int .i64 0) := by rw [cell_of_block bo]; rfl
  have oe := (o2.els ty_len).keeps ty_ne KK
  obtain ⟨g, off, hgo, q0⟩ := oe.at 0 (by decide)
  obtain ⟨g', off', hgo', q1⟩ := oe.at 1 (by decide)
  subst hgo
  simp only [Option.some.injEq, Addr.mk.injEq, and_true] at hgo'
  obtain ⟨rfl, rfl⟩ := hgo'
  have d0 : w6.cell? ⟨g, off, none⟩ = some (.int .i64 0) := by simpa using q0 0 _ rfl
  have d1 : w6.cell? ⟨g, off + 1, none⟩ = some (.int .i64 0) := by simpa using q0 1 _ rfl
  have d2 : w6.cell? ⟨g, off + 2, none⟩ = some (.int .i64 4) := by simpa using q0 2 _ rfl
  have d3 : w6.cell? ⟨g, off + 3, none⟩ = some (.int .u64 0) := by simpa using q0 3 _ rfl
  have d4 : w6.cell? ⟨g, off + 4, none⟩ = some (.int .i64 6) := by simpa using q0 4 _ rfl
  have d5 : w6.cell? ⟨g, off + 5, none⟩ = some (.int .i64 0) := by simpa using q0 5 _ rfl
  have d6 : w6.cell? ⟨g, off + 6, none⟩ = some (.int .i64 1) := by simpa using q0 6 _ rfl
  have f0 : w6.cell? ⟨g, off + 7, none⟩ = some (.int .i64 1) := by simpa using q1 0 _ rfl
  have f1 : w6.cell? ⟨g, off + 7 + 1, none⟩ = some (.int .i64 5) := by simpa using q1 1 _ rfl
  have f2 : w6.cell? ⟨g, off + 7 + 2, none⟩ = some (.int .i64 5) := by simpa using q1 2 _ rfl
  have f3 : w6.cell? ⟨g, off + 7 + 3, none⟩ = some (.int .u64 2) := by simpa using q1 3 _ rfl
  have f4 : w6.cell? ⟨g, off + 7 + 4, none⟩ = some (.int .i64 0) := by simpa using q1 4 _ rfl
  have f5 : w6.cell? ⟨g, off + 7 + 5, none⟩ = some (.int .i64 0) := by simpa using q1 5 _ rfl
  have f6 : w6.cell? ⟨g, off + 7 + 6, none⟩ = some (.int .i64 0) := by simpa using q1 6 _ rfl
  have Q1 := eq_ty_self 0 0 4 0 6 0 1
  have Q2 := eq_ty_self 1 5 5 2 0 0 0
  clear oe q0 q1 bo KK o2 o5 o6 P1 P2 TX S2 K2 K3 K4 K5 K6 k3 k4 k5 k6 ka ba e3' k0
  go_wp2_with (go_at_call 29; refine (NN _ _).mono ?_; rintro ex w' ⟨rfl, rfl⟩)
  go_ret
  exact ⟨rfl, K7⟩
end Go.Proofs.YtjaldfmdjnkoeaaDoor
