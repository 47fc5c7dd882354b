/-
  No statement of the seat is proved here. (Several texts in one: AzH, AzI, AzJ.)
-/
import Derived.Test.YtppejcfghlpbjaaGreatDoorN21AzF
import Derived.Test.YtppejcfghlpbjaaGreatDoorM07AsN

/- Walk of the document's KeptScript (package parleyref09). No statement of the seat is proved here. -/
namespace Go.Proofs.YtppejcfghlpbjaaGreatDoor
open Go.RowKit Go.Shelf

set_option maxRecDepth 100000 in
set_option maxHeartbeats 40000000 in
theorem rkepts_any (x : Sc) (hx : Few x) (c : Int) (uf up uk vf vp vk : Value) (w : World) (hc : Cpy w uf up uk x) (h : ScAt w vf vp vk x) : Calls Tryz.prog 10 #[.agg #[.int .i64 c, uf, up, uk], .agg #[.int .i64 c, vf, vp, vk]] w fun e w' => e = .returned (.bool true) ∧ Keeps (fun _ => False) w w' := by
  have hmx : Tryz.prog.follows .mixedOrders = true := by kernel_rfl
  have HA : Hid (∀ X, Keeps (fun _ => False) w X → ScAt X vf vp vk x) := fun X k => h.keeps k
  have HC : Hid (∀ X, Keeps (fun _ => False) w X → Cpy X uf up uk x) := fun X k => hc.keeps k
  obtain ⟨⟨g64, c64, rfl, lf, _⟩, ⟨g32, c32, rfl, lk, _⟩, ⟨gp, cp, _, rfl, lp, _⟩⟩ := hc
  obtain ⟨⟨fa, fc, rfl, _⟩, ⟨pa, pc, rfl, _⟩, ⟨ka, kc, rfl, _⟩⟩ := h
  obtain ⟨c', F, P, K⟩ := x
  dsimp only at *
  have hnf : F.length ≤ 2000 := hx.nf
  have hnk : K.length ≤ 2000 := hx.nk
  have hnp : P.length ≤ 300 := hx.np
  have HX : Hid (Few ⟨c', F, P, K⟩) := hx
  obtain ⟨W1, hW1⟩ : ∃ W, W = (w.alloc (.cells #[.int .i64 c, .slice (some ⟨g64, 0, none⟩) F.length c64, .slice (some ⟨gp, 0, none⟩) P.length cp, .slice (some ⟨g32, 0, none⟩) K.length c32] 26)).alloc (.cells #[.int .i64 c, .slice fa F.length fc, .slice pa P.length pc, .slice ka K.length kc] 26) := ⟨_, rfl⟩
  have k1 : Keeps (fun _ => False) w W1 := by rw [hW1]; exact ((Keeps.refl (fun _ => False) w).alloc _).alloc _
  have bA : W1.heap[w.heap.size]? = some (.cells #[.int .i64 c, .slice (some ⟨g64, 0, none⟩) F.length c64, .slice (some ⟨gp, 0, none⟩) P.length cp, .slice (some ⟨g32, 0, none⟩) K.length c32] 26 (0, 0)) := by rw [hW1]; exact alloc_old (alloc_block w _) _
  have bB : W1.heap[w.heap.size + 1]? = some (.cells #[.int .i64 c, .slice fa F.length fc, .slice pa P.length pc, .slice ka K.length kc] 26 (0, 0)) := by rw [hW1]; exact heap_two w _ _
  have SA := rsamescr_any c (.slice (some ⟨g64, 0, none⟩) F.length c64) (.slice (some ⟨gp, 0, none⟩) P.length cp) (.slice (some ⟨g32, 0, none⟩) K.length c32) (.slice fa F.length fc) (.slice pa P.length pc) (.slice ka K.length kc) ⟨c', F, P, K⟩ (by show F.length ≤ _; omega) (by show P.length ≤ _; omega) (by show K.length ≤ _; omega) (fun p hp => by have := hx.each p hp; omega) W1 (HC.out W1 k1).at (HA.out W1 k1)
  have HBX : Hid (∀ X, Keeps (fun _ => False) W1 X → (X.cell? ⟨w.heap.size, 0, none⟩ = some (.int .i64 c) ∧ X.cell? ⟨w.heap.size, 1, none⟩ = some (.slice (some ⟨g64, 0, none⟩) F.length c64) ∧ X.cell? ⟨w.heap.size, 2, none⟩ = some (.slice (some ⟨gp, 0, none⟩) P.length cp) ∧ X.cell? ⟨w.heap.size, 3, none⟩ = some (.slice (some ⟨g32, 0, none⟩) K.length c32)) ∧ X.cell? ⟨w.heap.size + 1, 0, none⟩ = some (.int .i64 c) ∧ X.cell? ⟨w.heap.size + 1, 1, none⟩ = some (.slice fa F.length fc) ∧ X.cell? ⟨w.heap.size + 1, 2, none⟩ = some (.slice pa P.length pc) ∧ X.cell? ⟨w.heap.size + 1, 3, none⟩ = some (.slice ka K.length kc)) := fun X k => by
    have q := (k.block _ (lt_of_block bA) (fun f => f)).trans bA
    have q' := (k.block _ (lt_of_block bB) (fun f => f)).trans bB
    exact ⟨⟨by rw [cell_of_block q]; rfl, by rw [cell_of_block q]; rfl, by rw [cell_of_block q]; rfl, by rw [cell_of_block q]; rfl⟩, by rw [cell_of_block q']; rfl, by rw [cell_of_block q']; rfl, by rw [cell_of_block q']; rfl, by rw [cell_of_block q']; rfl⟩
  have HW1 : Hid (W1 = (w.alloc (.cells #[.int .i64 c, .slice (some ⟨g64, 0, none⟩) F.length c64, .slice (some ⟨gp, 0, none⟩) P.length cp, .slice (some ⟨g32, 0, none⟩) K.length c32] 26)).alloc (.cells #[.int .i64 c, .slice fa F.length fc, .slice pa P.length pc, .slice ka K.length kc] 26)) := hW1
  have K1 : Hid (Keeps (fun _ => False) w W1) := k1
  have i64 : (F.length : Int) + 1 ≤ c64 := by omega
  have i32 : (K.length : Int) + 1 ≤ c32 := by omega
  have ip : (P.length : Int) + 1 ≤ cp := by omega
  have j64 : (F.length : Int) ≤ 2000 := by omega
  have j32 : (K.length : Int) ≤ 2000 := by omega
  have jp : (P.length : Int) ≤ 300 := by omega
  have w64 : IntKind.i64.wrap ((F.length : Int) + 1) = (F.length : Int) + 1 := by rw [IntKind.wrap_i64]; omega
  have w32 : IntKind.i64.wrap ((K.length : Int) + 1) = (K.length : Int) + 1 := by rw [IntKind.wrap_i64]; omega
  have wp : IntKind.i64.wrap ((P.length : Int) + 1) = (P.length : Int) + 1 := by rw [IntKind.wrap_i64]; omega
  obtain ⟨⟨z0, z1, z2, z3⟩, t0, t1, t2, t3⟩ := HBX.out W1 (Keeps.refl _ _)
  rw [hW1] at z0 z1 z2 z3 t0 t1 t2 t3 SA
  clear hW1 k1 bA bB hx lf lk lp
  go_enter Tryz.func10, Tryz.ntmps10
  go_wp2_with fail
  refine SA.mono ?_
  rintro e X2 ⟨rfl, kX2⟩
  rw [← HW1.out] at kX2
  clear SA z0 z1 z2 z3 t0 t1 t2 t3 HW1
  go_wp2_with fail
  refine wp_held_end (S := fun X : World => X = X2.drew) 50 rfl hmx ?_
  have kV : Hid (Keeps (fun _ => False) W1 X2.drew) := kX2.trans ((Keeps.refl _ _).drewN 1)
  generalize X2.drew = Vd at *
  clear kX2
  obtain ⟨⟨y0, y1, y2, y3⟩, x0, x1, x2, x3⟩ := HBX.out Vd kV.out
  have cV := HC.out Vd (K1.out.trans kV.out)
  obtain ⟨⟨_, _, e1, _, _, m64⟩, ⟨_, _, e2, _, _, m32'⟩, ⟨_, _, gm2, e3, _, _, mp, mq⟩⟩ := cV
  simp only [Value.slice.injEq, Option.some.injEq, Addr.mk.injEq, and_true, true_and] at e1 e2 e3
  obtain ⟨rfl, rfl⟩ := e1
  obtain ⟨rfl, rfl⟩ := e2
  obtain ⟨rfl, rfl⟩ := e3
  dsimp only at m64 m32' mp mq
  simp only [Array.replicate_succ, Array.replicate_zero, List.push_toArray, List.nil_append, List.cons_append]
  refine held_take (i := 0) (v := .bool true) 11 rfl rfl (by kernel_rfl) (by kernel_rfl) (by kernel_rfl) rfl (fun w' hw' => by subst hw'; first | (go_simp; done) | (go_simp; omega) | (go_simp; intro hh9; omega)) rfl ?_
  simp only [Act.put, List.setIfInBounds_toArray, List.set_cons_zero, List.set_cons_succ]
  refine held_take (i := 1) (v := .bool false) 12 rfl rfl (by kernel_rfl) (by kernel_rfl) (by kernel_rfl) rfl (fun w' hw' => by subst hw'; first | (go_simp; done) | (go_simp; omega) | (go_simp; intro hh9; omega)) rfl ?_
  simp only [Act.put, List.setIfInBounds_toArray, List.set_cons_zero, List.set_cons_succ]
  refine held_take (i := 2) (v := .bool false) 13 rfl rfl (by kernel_rfl) (by kernel_rfl) (by kernel_rfl) rfl (fun w' hw' => by subst hw'; first | (go_simp; done) | (go_simp; omega) | (go_simp; intro hh9; omega)) rfl ?_
  simp only [Act.put, List.setIfInBounds_toArray, List.set_cons_zero, List.set_cons_succ]
  refine held_take (i := 3) (v := .pointer (some ⟨w.heap.size, 1, none⟩)) 14 rfl rfl (by kernel_rfl) (by kernel_rfl) (by kernel_rfl) rfl (fun w' hw' => by subst hw'; first | (go_simp; done) | (go_simp; omega) | (go_simp; intro hh9; omega)) rfl ?_
  simp only [Act.put, List.setIfInBounds_toArray, List.set_cons_zero, List.set_cons_succ]
  refine held_take (i := 4) (v := .slice (some ⟨g64, 0, none⟩) F.length c64) 15 rfl rfl (by kernel_rfl) (by kernel_rfl) (by kernel_rfl) rfl (fun w' hw' => by subst hw'; first | (go_simp; done) | (go_simp; omega) | (go_simp; intro hh9; omega)) rfl ?_
  simp only [Act.put, List.setIfInBounds_toArray, List.set_cons_zero, List.set_cons_succ]
  refine held_take (i := 5) (v := .pointer (some ⟨w.heap.size + 1, 1, none⟩)) 16 rfl rfl (by kernel_rfl) (by kernel_rfl) (by kernel_rfl) rfl (fun w' hw' => by subst hw'; first | (go_simp; done) | (go_simp; omega) | (go_simp; intro hh9; omega)) rfl ?_
  simp only [Act.put, List.setIfInBounds_toArray, List.set_cons_zero, List.set_cons_succ]
  refine held_take (i := 6) (v := .slice fa F.length fc) 17 rfl rfl (by kernel_rfl) (by kernel_rfl) (by kernel_rfl) rfl (fun w' hw' => by subst hw'; first | (go_simp; done) | (go_simp; omega) | (go_simp; intro hh9; omega)) rfl ?_
  simp only [Act.put, List.setIfInBounds_toArray, List.set_cons_zero, List.set_cons_succ]
  refine held_take (i := 7) (v := .int .i64 (F.length : Int)) 18 rfl rfl (by kernel_rfl) (by kernel_rfl) (by kernel_rfl) rfl (fun w' hw' => by subst hw'; first | (go_simp; done) | (go_simp; omega) | (go_simp; intro hh9; omega)) rfl ?_
  simp only [Act.put, List.setIfInBounds_toArray, List.set_cons_zero, List.set_cons_succ]
  refine held_take (i := 8) (v := .int .i64 ((F.length : Int) + 1)) 19 rfl rfl (by kernel_rfl) (by kernel_rfl) (by kernel_rfl) rfl (fun w' hw' => by subst hw'; first | (go_simp; done) | (go_simp; omega) | (go_simp; intro hh9; omega)) rfl ?_
  simp only [Act.put, List.setIfInBounds_toArray, List.set_cons_zero, List.set_cons_succ]
  refine held_take (i := 9) (v := .slice (some ⟨g64, 0, none⟩) (F.length + 1) c64) 20 rfl rfl (by kernel_rfl) (by kernel_rfl) (by kernel_rfl) rfl (fun w' hw' => by subst hw'; first | (go_simp; done) | (go_simp; omega) | (go_simp; intro hh9; omega)) rfl ?_
  simp only [Act.put, List.setIfInBounds_toArray, List.set_cons_zero, List.set_cons_succ]
  refine held_take (i := 10) (v := .pointer (some ⟨w.heap.size + 1, 1, none⟩)) 21 rfl rfl (by kernel_rfl) (by kernel_rfl) (by kernel_rfl) rfl (fun w' hw' => by subst hw'; first | (go_simp; done) | (go_simp; omega) | (go_simp; intro hh9; omega)) rfl ?_
  simp only [Act.put, List.setIfInBounds_toArray, List.set_cons_zero, List.set_cons_succ]
  refine held_take (i := 11) (v := .slice fa F.length fc) 22 rfl rfl (by kernel_rfl) (by kernel_rfl) (by kernel_rfl) rfl (fun w' hw' => by subst hw'; first | (go_simp; done) | (go_simp; omega) | (go_simp; intro hh9; omega)) rfl ?_
  simp only [Act.put, List.setIfInBounds_toArray, List.set_cons_zero, List.set_cons_succ]
  refine held_take (i := 12) (v := .int .i64 (F.length : Int)) 23 rfl rfl (by kernel_rfl) (by kernel_rfl) (by kernel_rfl) rfl (fun w' hw' => by subst hw'; first | (go_simp; done) | (go_simp; omega) | (go_simp; intro hh9; omega)) rfl ?_
  simp only [Act.put, List.setIfInBounds_toArray, List.set_cons_zero, List.set_cons_succ]
  refine held_take (i := 13) (v := .pointer (some ⟨g64, F.length, none⟩)) 24 rfl rfl (by kernel_rfl) (by kernel_rfl) (by kernel_rfl) rfl (fun w' hw' => by subst hw'; first | (go_simp; done) | (go_simp; omega) | (go_simp; intro hh9; omega)) rfl ?_
  simp only [Act.put, List.setIfInBounds_toArray, List.set_cons_zero, List.set_cons_succ]
  refine held_take (i := 14) (v := .int .u64 23130) 25 rfl rfl (by kernel_rfl) (by kernel_rfl) (by kernel_rfl) rfl (fun w' hw' => by subst hw'; first | (go_simp; done) | (go_simp; omega) | (go_simp; intro hh9; omega)) rfl ?_
  simp only [Act.put, List.setIfInBounds_toArray, List.set_cons_zero, List.set_cons_succ]
  refine held_take (i := 15) (v := .bool false) 26 rfl rfl (by kernel_rfl) (by kernel_rfl) (by kernel_rfl) rfl (fun w' hw' => by subst hw'; first | (go_simp; done) | (go_simp; omega) | (go_simp; intro hh9; omega)) rfl ?_
  simp only [Act.put, List.setIfInBounds_toArray, List.set_cons_zero, List.set_cons_succ]
  refine held_take (i := 16) (v := .bool false) 27 rfl rfl (by kernel_rfl) (by kernel_rfl) (by kernel_rfl) rfl (fun w' hw' => by subst hw'; first | (go_simp; done) | (go_simp; omega) | (go_simp; intro hh9; omega)) rfl ?_
  simp only [Act.put, List.setIfInBounds_toArray, List.set_cons_zero, List.set_cons_succ]
  refine held_take (i := 17) (v := .bool false) 28 rfl rfl (by kernel_rfl) (by kernel_rfl) (by kernel_rfl) rfl (fun w' hw' => by subst hw'; first | (go_simp; done) | (go_simp; omega) | (go_simp; intro hh9; omega)) rfl ?_
  simp only [Act.put, List.setIfInBounds_toArray, List.set_cons_zero, List.set_cons_succ]
  refine held_take (i := 18) (v := .pointer (some ⟨w.heap.size, 3, none⟩)) 29 rfl rfl (by kernel_rfl) (by kernel_rfl) (by kernel_rfl) rfl (fun w' hw' => by subst hw'; first | (go_simp; done) | (go_simp; omega) | (go_simp; intro hh9; omega)) rfl ?_
  simp only [Act.put, List.setIfInBounds_toArray, List.set_cons_zero, List.set_cons_succ]
  refine held_take (i := 19) (v := .slice (some ⟨g32, 0, none⟩) K.length c32) 30 rfl rfl (by kernel_rfl) (by kernel_rfl) (by kernel_rfl) rfl (fun w' hw' => by subst hw'; first | (go_simp; done) | (go_simp; omega) | (go_simp; intro hh9; omega)) rfl ?_
  simp only [Act.put, List.setIfInBounds_toArray, List.set_cons_zero, List.set_cons_succ]
  refine held_take (i := 20) (v := .pointer (some ⟨w.heap.size + 1, 3, none⟩)) 31 rfl rfl (by kernel_rfl) (by kernel_rfl) (by kernel_rfl) rfl (fun w' hw' => by subst hw'; first | (go_simp; done) | (go_simp; omega) | (go_simp; intro hh9; omega)) rfl ?_
  simp only [Act.put, List.setIfInBounds_toArray, List.set_cons_zero, List.set_cons_succ]
  refine held_take (i := 21) (v := .slice ka K.length kc) 32 rfl rfl (by kernel_rfl) (by kernel_rfl) (by kernel_rfl) rfl (fun w' hw' => by subst hw'; first | (go_simp; done) | (go_simp; omega) | (go_simp; intro hh9; omega)) rfl ?_
  simp only [Act.put, List.setIfInBounds_toArray, List.set_cons_zero, List.set_cons_succ]
  refine held_take (i := 22) (v := .int .i64 (K.length : Int)) 33 rfl rfl (by kernel_rfl) (by kernel_rfl) (by kernel_rfl) rfl (fun w' hw' => by subst hw'; first | (go_simp; done) | (go_simp; omega) | (go_simp; intro hh9; omega)) rfl ?_
  simp only [Act.put, List.setIfInBounds_toArray, List.set_cons_zero, List.set_cons_succ]
  refine held_take (i := 23) (v := .int .i64 ((K.length : Int) + 1)) 34 rfl rfl (by kernel_rfl) (by kernel_rfl) (by kernel_rfl) rfl (fun w' hw' => by subst hw'; first | (go_simp; done) | (go_simp; omega) | (go_simp; intro hh9; omega)) rfl ?_
  simp only [Act.put, List.setIfInBounds_toArray, List.set_cons_zero, List.set_cons_succ]
  refine held_take (i := 24) (v := .slice (some ⟨g32, 0, none⟩) (K.length + 1) c32) 35 rfl rfl (by kernel_rfl) (by kernel_rfl) (by kernel_rfl) rfl (fun w' hw' => by subst hw'; first | (go_simp; done) | (go_simp; omega) | (go_simp; intro hh9; omega)) rfl ?_
  simp only [Act.put, List.setIfInBounds_toArray, List.set_cons_zero, List.set_cons_succ]
  refine held_take (i := 25) (v := .pointer (some ⟨w.heap.size + 1, 3, none⟩)) 36 rfl rfl (by kernel_rfl) (by kernel_rfl) (by kernel_rfl) rfl (fun w' hw' => by subst hw'; first | (go_simp; done) | (go_simp; omega) | (go_simp; intro hh9; omega)) rfl ?_
  simp only [Act.put, List.setIfInBounds_toArray, List.set_cons_zero, List.set_cons_succ]
  refine held_take (i := 26) (v := .slice ka K.length kc) 37 rfl rfl (by kernel_rfl) (by kernel_rfl) (by kernel_rfl) rfl (fun w' hw' => by subst hw'; first | (go_simp; done) | (go_simp; omega) | (go_simp; intro hh9; omega)) rfl ?_
  simp only [Act.put, List.setIfInBounds_toArray, List.set_cons_zero, List.set_cons_succ]
  refine held_take (i := 27) (v := .int .i64 (K.length : Int)) 38 rfl rfl (by kernel_rfl) (by kernel_rfl) (by kernel_rfl) rfl (fun w' hw' => by subst hw'; first | (go_simp; done) | (go_simp; omega) | (go_simp; intro hh9; omega)) rfl ?_
  simp only [Act.put, List.setIfInBounds_toArray, List.set_cons_zero, List.set_cons_succ]
  refine held_take (i := 28) (v := .pointer (some ⟨g32, K.length, none⟩)) 39 rfl rfl (by kernel_rfl) (by kernel_rfl) (by kernel_rfl) rfl (fun w' hw' => by subst hw'; first | (go_simp; done) | (go_simp; omega) | (go_simp; intro hh9; omega)) rfl ?_
  simp only [Act.put, List.setIfInBounds_toArray, List.set_cons_zero, List.set_cons_succ]
  refine held_take (i := 29) (v := .int .u32 23130) 40 rfl rfl (by kernel_rfl) (by kernel_rfl) (by kernel_rfl) rfl (fun w' hw' => by subst hw'; first | (go_simp; done) | (go_simp; omega) | (go_simp; intro hh9; omega)) rfl ?_
  simp only [Act.put, List.setIfInBounds_toArray, List.set_cons_zero, List.set_cons_succ]
  refine held_take (i := 30) (v := .bool false) 41 rfl rfl (by kernel_rfl) (by kernel_rfl) (by kernel_rfl) rfl (fun w' hw' => by subst hw'; first | (go_simp; done) | (go_simp; omega) | (go_simp; intro hh9; omega)) rfl ?_
  simp only [Act.put, List.setIfInBounds_toArray, List.set_cons_zero, List.set_cons_succ]
  refine held_take (i := 31) (v := .bool false) 42 rfl rfl (by kernel_rfl) (by kernel_rfl) (by kernel_rfl) rfl (fun w' hw' => by subst hw'; first | (go_simp; done) | (go_simp; omega) | (go_simp; intro hh9; omega)) rfl ?_
  simp only [Act.put, List.setIfInBounds_toArray, List.set_cons_zero, List.set_cons_succ]
  refine held_take (i := 32) (v := .bool false) 43 rfl rfl (by kernel_rfl) (by kernel_rfl) (by kernel_rfl) rfl (fun w' hw' => by subst hw'; first | (go_simp; done) | (go_simp; omega) | (go_simp; intro hh9; omega)) rfl ?_
  simp only [Act.put, List.setIfInBounds_toArray, List.set_cons_zero, List.set_cons_succ]
  refine held_take (i := 33) (v := .pointer (some ⟨w.heap.size, 2, none⟩)) 44 rfl rfl (by kernel_rfl) (by kernel_rfl) (by kernel_rfl) rfl (fun w' hw' => by subst hw'; first | (go_simp; done) | (go_simp; omega) | (go_simp; intro hh9; omega)) rfl ?_
  simp only [Act.put, List.setIfInBounds_toArray, List.set_cons_zero, List.set_cons_succ]
  refine held_take (i := 34) (v := .slice (some ⟨gp, 0, none⟩) P.length cp) 45 rfl rfl (by kernel_rfl) (by kernel_rfl) (by kernel_rfl) rfl (fun w' hw' => by subst hw'; first | (go_simp; done) | (go_simp; omega) | (go_simp; intro hh9; omega)) rfl ?_
  simp only [Act.put, List.setIfInBounds_toArray, List.set_cons_zero, List.set_cons_succ]
  refine held_take (i := 35) (v := .pointer (some ⟨w.heap.size + 1, 2, none⟩)) 46 rfl rfl (by kernel_rfl) (by kernel_rfl) (by kernel_rfl) rfl (fun w' hw' => by subst hw'; first | (go_simp; done) | (go_simp; omega) | (go_simp; intro hh9; omega)) rfl ?_
  simp only [Act.put, List.setIfInBounds_toArray, List.set_cons_zero, List.set_cons_succ]
  refine held_take (i := 36) (v := .slice pa P.length pc) 47 rfl rfl (by kernel_rfl) (by kernel_rfl) (by kernel_rfl) rfl (fun w' hw' => by subst hw'; first | (go_simp; done) | (go_simp; omega) | (go_simp; intro hh9; omega)) rfl ?_
  simp only [Act.put, List.setIfInBounds_toArray, List.set_cons_zero, List.set_cons_succ]
  refine held_take (i := 37) (v := .int .i64 (P.length : Int)) 48 rfl rfl (by kernel_rfl) (by kernel_rfl) (by kernel_rfl) rfl (fun w' hw' => by subst hw'; first | (go_simp; done) | (go_simp; omega) | (go_simp; intro hh9; omega)) rfl ?_
  simp only [Act.put, List.setIfInBounds_toArray, List.set_cons_zero, List.set_cons_succ]
  refine held_take (i := 38) (v := .int .i64 ((P.length : Int) + 1)) 49 rfl rfl (by kernel_rfl) (by kernel_rfl) (by kernel_rfl) rfl (fun w' hw' => by subst hw'; first | (go_simp; done) | (go_simp; omega) | (go_simp; intro hh9; omega)) rfl ?_
  simp only [Act.put, List.setIfInBounds_toArray, List.set_cons_zero, List.set_cons_succ]
  refine held_take (i := 39) (v := .slice (some ⟨gp, 0, none⟩) (P.length + 1) cp) 50 rfl rfl (by kernel_rfl) (by kernel_rfl) (by kernel_rfl) rfl (fun w' hw' => by subst hw'; first | (go_simp; done) | (go_simp; omega) | (go_simp; intro hh9; omega)) rfl ?_
  simp only [Act.put, List.setIfInBounds_toArray, List.set_cons_zero, List.set_cons_succ]
  refine held_take (i := 40) (v := .pointer (some ⟨w.heap.size + 1, 2, none⟩)) 51 rfl rfl (by kernel_rfl) (by kernel_rfl) (by kernel_rfl) rfl (fun w' hw' => by subst hw'; first | (go_simp; done) | (go_simp; omega) | (go_simp; intro hh9; omega)) rfl ?_
  simp only [Act.put, List.setIfInBounds_toArray, List.set_cons_zero, List.set_cons_succ]
  refine held_take (i := 41) (v := .slice pa P.length pc) 52 rfl rfl (by kernel_rfl) (by kernel_rfl) (by kernel_rfl) rfl (fun w' hw' => by subst hw'; first | (go_simp; done) | (go_simp; omega) | (go_simp; intro hh9; omega)) rfl ?_
  simp only [Act.put, List.setIfInBounds_toArray, List.set_cons_zero, List.set_cons_succ]
  refine held_take (i := 42) (v := .int .i64 (P.length : Int)) 53 rfl rfl (by kernel_rfl) (by kernel_rfl) (by kernel_rfl) rfl (fun w' hw' => by subst hw'; first | (go_simp; done) | (go_simp; omega) | (go_simp; intro hh9; omega)) rfl ?_
  simp only [Act.put, List.setIfInBounds_toArray, List.set_cons_zero, List.set_cons_succ]
  refine held_take (i := 43) (v := .pointer (some ⟨gp, P.length, none⟩)) 54 rfl rfl (by kernel_rfl) (by kernel_rfl) (by kernel_rfl) rfl (fun w' hw' => by subst hw'; first | (go_simp; done) | (go_simp; omega) | (go_simp; intro hh9; omega)) rfl ?_
  simp only [Act.put, List.setIfInBounds_toArray, List.set_cons_zero, List.set_cons_succ]
  refine held_take (i := 44) (v := .slice (some ⟨gm2, 0, none⟩) 1 1) 55 rfl rfl (by kernel_rfl) (by kernel_rfl) (by kernel_rfl) rfl (fun w' hw' => by subst hw'; first | (go_simp; done) | (go_simp; omega) | (go_simp; intro hh9; omega)) rfl ?_
  simp only [Act.put, List.setIfInBounds_toArray, List.set_cons_zero, List.set_cons_succ]
  refine held_take (i := 45) (v := .pointer (some ⟨gm2, 0, none⟩)) 56 rfl rfl (by kernel_rfl) (by kernel_rfl) (by kernel_rfl) rfl (fun w' hw' => by subst hw'; first | (go_simp; done) | (go_simp; omega) | (go_simp; intro hh9; omega)) rfl ?_
  simp only [Act.put, List.setIfInBounds_toArray, List.set_cons_zero, List.set_cons_succ]
  refine held_take (i := 46) (v := .pointer (some ⟨gm2, 0, none⟩)) 57 rfl rfl (by kernel_rfl) (by kernel_rfl) (by kernel_rfl) rfl (fun w' hw' => by subst hw'; first | (go_simp; done) | (go_simp; omega) | (go_simp; intro hh9; omega)) rfl ?_
  simp only [Act.put, List.setIfInBounds_toArray, List.set_cons_zero, List.set_cons_succ]
  refine held_take (i := 47) (v := .int .i64 97) 58 rfl rfl (by kernel_rfl) (by kernel_rfl) (by kernel_rfl) rfl (fun w' hw' => by subst hw'; first | (go_simp; done) | (go_simp; omega) | (go_simp; intro hh9; omega)) rfl ?_
  simp only [Act.put, List.setIfInBounds_toArray, List.set_cons_zero, List.set_cons_succ]
  refine held_take (i := 48) (v := .bool false) 59 rfl rfl (by kernel_rfl) (by kernel_rfl) (by kernel_rfl) rfl (fun w' hw' => by subst hw'; first | (go_simp; done) | (go_simp; omega) | (go_simp; intro hh9; omega)) rfl ?_
  simp only [Act.put, List.setIfInBounds_toArray, List.set_cons_zero, List.set_cons_succ]
  refine held_take (i := 49) (v := .bool false) 60 rfl rfl (by kernel_rfl) (by kernel_rfl) (by kernel_rfl) rfl (fun w' hw' => by subst hw'; first | (go_simp; done) | (go_simp; omega) | (go_simp; intro hh9; omega)) rfl ?_
  simp only [Act.put, List.setIfInBounds_toArray, List.set_cons_zero, List.set_cons_succ]
  refine held_end (by kernel_rfl) ?_ _
  clear y0 y1 y3 x0 x1 x2 x3 m64 m32' mp mq y2
  go_wp2_with fail
  go_loopw [6] (fun u wr => ∃ k : Nat, u = .int .i64 (k : Int) ∧ k ≤ P.length ∧ Hid (Keeps (fun _ => False) W1 wr)) (fun u _ => P.length - (intOf u).toNat)
  case atStart => exact ⟨0, rfl, Nat.zero_le _, kV⟩
  case round =>
    obtain ⟨k, rfl, hk, KR⟩ := hrel
    clear kV
    have x2 := (HBX.out wr KR.out).2.2.2.1
    by_cases hlt : k < P.length
    · have hki : (k : Int) < P.length := by omega
      have kd : Keeps (fun _ => False) W1 wr.drew := KR.out.trans ((Keeps.refl _ _).drewN 1)
      obtain ⟨_, ⟨_, _, q1, q2, q3⟩, _⟩ := HA.out wr.drew (K1.out.trans kd)
      simp only [Value.slice.injEq] at q1
      obtain ⟨rfl, -, rfl⟩ := q1
      obtain ⟨g0, off, v, rfl, cx, ia⟩ := q3 k hlt
      have q2' : P.length ≤ pc := q2
      have hkc : (k : Int) < pc := by omega
      obtain ⟨_, _, ⟨_, _, _, e3, _, e4, _⟩⟩ := HC.out wr.drew (K1.out.trans kd)
      simp only [Value.slice.injEq, Option.some.injEq, Addr.mk.injEq, and_true, true_and] at e3
      obtain ⟨rfl, rfl⟩ := e3
      obtain ⟨gk, ck, cy, hck, ib⟩ := e4 k hlt
      have hkp : (k : Int) < cp := by omega
      obtain ⟨aa, ac, rfl, -⟩ := ia.form
      have hel : (P[k]).length ≤ 2000 := HX.out.each _ (List.getElem_mem hlt)
      have KC := rkept_any (.slice aa (P[k]).length ac) (P[k]) (by omega) gk ck hck wr.drew ia ib
      have y2 := (HBX.out wr.drew kd).1.2.2.1
      have x2d := (HBX.out wr.drew kd).2.2.2.1
      dsimp only at cx cy
      generalize hpl : (P[k]'hlt).length = pl at *
      have ST : (fun X : World => X.cell? ⟨w.heap.size, 2, none⟩ = some (.slice (some ⟨gp, 0, none⟩) P.length cp) ∧ X.cell? ⟨w.heap.size + 1, 2, none⟩ = some (.slice (some ⟨g0, off, none⟩) P.length pc) ∧ X.cell? ⟨gp, k, none⟩ = some (.slice (some ⟨gk, 0, none⟩) pl ck) ∧ X.cell? ⟨g0, off + k, none⟩ = some (.slice aa pl ac) ∧ Keeps (fun _ => False) W1 X) wr.drew := ⟨y2, x2d, cy, cx, kd⟩
      clear ia ib q2 q3 e4 hck hel hpl y2 x2d cx cy kd HX
      go_wp2_with fail
      refine wp_held_end (S := (fun X : World => X.cell? ⟨w.heap.size, 2, none⟩ = some (.slice (some ⟨gp, 0, none⟩) P.length cp) ∧ X.cell? ⟨w.heap.size + 1, 2, none⟩ = some (.slice (some ⟨g0, off, none⟩) P.length pc) ∧ X.cell? ⟨gp, k, none⟩ = some (.slice (some ⟨gk, 0, none⟩) pl ck) ∧ X.cell? ⟨g0, off + k, none⟩ = some (.slice aa pl ac) ∧ Keeps (fun _ => False) W1 X)) 12 rfl hmx ?_
      generalize wr.drew = Vd at *
      simp only [Array.replicate_succ, Array.replicate_zero, List.push_toArray, List.nil_append, List.cons_append]
      refine held_take (i := 0) (v := .pointer (some ⟨w.heap.size, 2, none⟩)) 68 rfl rfl (by kernel_rfl) (by kernel_rfl) (by kernel_rfl) rfl (fun w' hw' => by obtain ⟨r0, r1, r2, r3, r4⟩ := hw'; first | (go_simp; done) | (go_simp; intro hh9; omega)) ST ?_
      simp only [Act.put, List.setIfInBounds_toArray, List.set_cons_zero, List.set_cons_succ]
      refine held_take (i := 1) (v := .slice (some ⟨gp, 0, none⟩) P.length cp) 69 rfl rfl (by kernel_rfl) (by kernel_rfl) (by kernel_rfl) rfl (fun w' hw' => by obtain ⟨r0, r1, r2, r3, r4⟩ := hw'; first | (go_simp; done) | (go_simp; intro hh9; omega)) ST ?_
      simp only [Act.put, List.setIfInBounds_toArray, List.set_cons_zero, List.set_cons_succ]
      refine held_take (i := 2) (v := .int .i64 (k : Int)) 70 rfl rfl (by kernel_rfl) (by kernel_rfl) (by kernel_rfl) rfl (fun w' hw' => by obtain ⟨r0, r1, r2, r3, r4⟩ := hw'; first | (go_simp; done) | (go_simp; intro hh9; omega)) ST ?_
      simp only [Act.put, List.setIfInBounds_toArray, List.set_cons_zero, List.set_cons_succ]
      refine held_take (i := 3) (v := .pointer (some ⟨gp, k, none⟩)) 71 rfl rfl (by kernel_rfl) (by kernel_rfl) (by kernel_rfl) rfl (fun w' hw' => by obtain ⟨r0, r1, r2, r3, r4⟩ := hw'; first | (go_simp; done) | (go_simp; intro hh9; omega)) ST ?_
      simp only [Act.put, List.setIfInBounds_toArray, List.set_cons_zero, List.set_cons_succ]
      refine held_take (i := 4) (v := .slice (some ⟨gk, 0, none⟩) pl ck) 72 rfl rfl (by kernel_rfl) (by kernel_rfl) (by kernel_rfl) rfl (fun w' hw' => by obtain ⟨r0, r1, r2, r3, r4⟩ := hw'; first | (go_simp; done) | (go_simp; intro hh9; omega)) ST ?_
      simp only [Act.put, List.setIfInBounds_toArray, List.set_cons_zero, List.set_cons_succ]
      refine held_take (i := 5) (v := .pointer (some ⟨w.heap.size + 1, 2, none⟩)) 73 rfl rfl (by kernel_rfl) (by kernel_rfl) (by kernel_rfl) rfl (fun w' hw' => by obtain ⟨r0, r1, r2, r3, r4⟩ := hw'; first | (go_simp; done) | (go_simp; intro hh9; omega)) ST ?_
      simp only [Act.put, List.setIfInBounds_toArray, List.set_cons_zero, List.set_cons_succ]
      refine held_take (i := 6) (v := .slice (some ⟨g0, off, none⟩) P.length pc) 74 rfl rfl (by kernel_rfl) (by kernel_rfl) (by kernel_rfl) rfl (fun w' hw' => by obtain ⟨r0, r1, r2, r3, r4⟩ := hw'; first | (go_simp; done) | (go_simp; intro hh9; omega)) ST ?_
      simp only [Act.put, List.setIfInBounds_toArray, List.set_cons_zero, List.set_cons_succ]
      refine held_take (i := 7) (v := .int .i64 (k : Int)) 75 rfl rfl (by kernel_rfl) (by kernel_rfl) (by kernel_rfl) rfl (fun w' hw' => by obtain ⟨r0, r1, r2, r3, r4⟩ := hw'; first | (go_simp; done) | (go_simp; intro hh9; omega)) ST ?_
      simp only [Act.put, List.setIfInBounds_toArray, List.set_cons_zero, List.set_cons_succ]
      refine held_take (i := 8) (v := .pointer (some ⟨g0, off + k, none⟩)) 76 rfl rfl (by kernel_rfl) (by kernel_rfl) (by kernel_rfl) rfl (fun w' hw' => by obtain ⟨r0, r1, r2, r3, r4⟩ := hw'; first | (go_simp; done) | (go_simp; intro hh9; omega)) ST ?_
      simp only [Act.put, List.setIfInBounds_toArray, List.set_cons_zero, List.set_cons_succ]
      refine held_take (i := 9) (v := .slice aa pl ac) 77 rfl rfl (by kernel_rfl) (by kernel_rfl) (by kernel_rfl) rfl (fun w' hw' => by obtain ⟨r0, r1, r2, r3, r4⟩ := hw'; first | (go_simp; done) | (go_simp; intro hh9; omega)) ST ?_
      simp only [Act.put, List.setIfInBounds_toArray, List.set_cons_zero, List.set_cons_succ]
      refine held_call (i := 10) (f := 25) (args := #[.slice (some ⟨gk, 0, none⟩) pl ck, .slice aa pl ac]) 78 (by kernel_rfl) rfl rfl rfl (by go_simp) ?_
      refine KC.mono ?_
      rintro e W2 ⟨rfl, kW⟩
      replace ST : (fun X : World => X.cell? ⟨w.heap.size, 2, none⟩ = some (.slice (some ⟨gp, 0, none⟩) P.length cp) ∧ X.cell? ⟨w.heap.size + 1, 2, none⟩ = some (.slice (some ⟨g0, off, none⟩) P.length pc) ∧ X.cell? ⟨gp, k, none⟩ = some (.slice (some ⟨gk, 0, none⟩) pl ck) ∧ X.cell? ⟨g0, off + k, none⟩ = some (.slice aa pl ac) ∧ Keeps (fun _ => False) W1 X) W2 := ⟨cell_keep kW ST.1, cell_keep kW ST.2.1, cell_keep kW ST.2.2.1, cell_keep kW ST.2.2.2.1, ST.2.2.2.2.trans kW⟩
      refine ⟨_, rfl, ST, ?_⟩
      simp only [Act.put, List.setIfInBounds_toArray, List.set_cons_zero, List.set_cons_succ]
      refine held_take (i := 11) (v := .bool true) 7 rfl rfl (by kernel_rfl) (by kernel_rfl) (by kernel_rfl) rfl (fun w' hw' => by obtain ⟨r0, r1, r2, r3, r4⟩ := hw'; go_simp) ST ?_
      simp only [Act.put, List.setIfInBounds_toArray, List.set_cons_zero, List.set_cons_succ]
      refine held_end (by kernel_rfl) ?_ _
      have fin : Hid (Keeps (fun _ => False) W1 W2) := ST.2.2.2.2
      clear ST KC kW
      go_wp2_with fail
      go_roundw
      · exact ⟨k + 1, by simp, by omega, fin⟩
      · simp [intOf]; omega
    · have hki : ¬ (k : Int) < P.length := by omega
      have kk := K1.out.trans KR.out
      clear hk
      go_wp2_with fail
      go_ret
      exact ⟨rfl, kk⟩
end Go.Proofs.YtppejcfghlpbjaaGreatDoor


/- Walk of the law's many (package parleylaw09), and how long a text may be. No statement of the seat is proved here. -/
namespace Go.Proofs.YtppejcfghlpbjaaGreatDoor
open Go.RowKit Go.Shelf

def sumN (ps : List (List I5)) : Nat := (ps.map List.length).sum
theorem sumN_step {P : List (List I5)} {k : Nat} (h : k < P.length) : sumN (P.take (k + 1)) = sumN (P.take k) + (P[k]).length := by
  unfold sumN
  rw [List.take_succ_eq_append_getElem h, List.map_append, List.sum_append]
  simp
theorem sumN_mem {P : List (List I5)} {p : List I5} (h : p ∈ P) : p.length ≤ sumN P := by
  unfold sumN
  induction P with
  | nil => cases h
  | cons q P ih =>
    rw [List.map_cons, List.sum_cons]
    rcases List.mem_cons.1 h with rfl | h
    · omega
    · have := ih h; omega
theorem plainL_len2 {L : List I5} (hf : L.all formedB = true) (hw : ∀ i ∈ L, i.wf) : (plainL L).length ≤ 74 * L.length := by
  rw [plainL_map]
  induction L with
  | nil => simp
  | cons i L ih =>
    rw [List.all_cons, Bool.and_eq_true] at hf
    have h1 := text_len hf.1 (hw i (by simp)).2.2.2.2.1 (hw i (by simp)).2.2.2.2.2
    have h2 := ih hf.2 (fun j hj => hw j (by simp [hj]))
    simp only [List.map_cons, List.flatMap_cons, List.length_append, List.length_cons, List.length_nil]
    omega
theorem progT_len : ∀ (P : List (List I5)), allF P = true → (∀ p ∈ P, ∀ i ∈ p, i.wf) → (progT P).length ≤ 7 * P.length + 74 * sumN P
  | [], _, _ => by simp [progT]
  | p :: P, hf, hw => by
    unfold allF at hf
    rw [List.all_cons, Bool.and_eq_true] at hf
    have h1 := plainL_len2 hf.1 (hw p (by simp))
    have h2 := progT_len P hf.2 (fun q hq => hw q (by simp [hq]))
    have e : (threadW ++ [(10 : UInt8)]).length = 7 := rfl
    have e2 : sumN (p :: P) = p.length + sumN P := by unfold sumN; rw [List.map_cons, List.sum_cons]
    have e3 : progT (p :: P) = (threadW ++ [10]) ++ plainL p ++ progT P := by simp [progT]
    rw [e2, e3, List.length_append, List.length_append, e, List.length_cons]
    omega
structure Low (x : Sc) : Prop where
  few : Few x
  all : x.first.length + x.picks.length + sumN x.progs ≤ 2000
theorem Low.len {x : Sc} (h : Low x) (hf : allF x.progs = true) : (scrT x).length ≤ 200000 := by
  rw [scrT_eq]
  have h1 := numT_len cellsW [x.cells] (fun n hn => by simp only [List.mem_singleton] at hn; subst hn; exact Nat.le_trans h.few.cells (by decide))
  have h2 := numT_len firstW x.first h.few.first
  have h3 := numT_len picksW x.picks (fun n hn => Nat.le_trans (h.few.picks n hn) (by decide))
  have h4 := progT_len x.progs hf h.few.wf
  have e1 : cellsW.length = 5 := rfl
  have e2 : firstW.length = 5 := rfl
  have e3 : picksW.length = 5 := rfl
  have e4 : [x.cells].length = 1 := rfl
  have a := h.all
  have n := h.few.np
  simp only [List.length_append]
  omega
theorem Low.good {x : Sc} (h : Low x) (hf : allF x.progs = true) : Good x :=
  ⟨h.few.cells, h.few.first, h.few.picks, fun p hp => by unfold allF at hf; exact List.all_eq_true.1 hf p hp, h.few.wf⟩

def MyPost (x : Sc) (e : Ending) : Prop := ∃ b, e = .returned (.bool b) ∧ (b = false → x.progs.length ≤ 300 ∧ x.first.length + x.picks.length + sumN x.progs ≤ 2000)
set_option maxRecDepth 100000 in
set_option maxHeartbeats 40000000 in
theorem many_any (x : Sc) (h1 : x.first.length ≤ 140737488355328) (h2 : x.picks.length ≤ 140737488355328) (h4 : ∀ p ∈ x.progs, p.length ≤ 140737488355328) (h5 : x.progs.length ≤ 140737488355328) (c : Int) (vf vp vk : Value) (w : World) (h : ScAt w vf vp vk x) :
    Calls Tryz.prog 5 #[.agg #[.int .i64 c, vf, vp, vk]] w fun e w' => MyPost x e ∧ Keeps (fun _ => False) w w' := by
  have HA : Hid (∀ X, Keeps (fun _ => False) w X → ScAt X vf vp vk x) := fun X k => h.keeps k
  obtain ⟨⟨fa, fc, rfl, lf, _⟩, ⟨pa, pc, rfl, lp, _⟩, ⟨ka, kc, rfl, lk, _⟩⟩ := h
  obtain ⟨c', F, P, K⟩ := x
  dsimp only at *
  have HX4 : Hid (∀ p ∈ P, p.length ≤ 140737488355328) := h4
  obtain ⟨W1, hW1⟩ : ∃ W, W = w.alloc (.cells #[.int .i64 c, .slice fa F.length fc, .slice pa P.length pc, .slice ka K.length kc] 26) := ⟨_, rfl⟩
  have k1 : Keeps (fun _ => False) w W1 := by rw [hW1]; exact (Keeps.refl _ w).alloc _
  have b1 : W1.heap[w.heap.size]? = some (.cells #[.int .i64 c, .slice fa F.length fc, .slice pa P.length pc, .slice ka K.length kc] 26 (0, 0)) := by rw [hW1]; exact alloc_block _ _
  have x1 : W1.cell? ⟨w.heap.size, 1, none⟩ = some (.slice fa F.length fc) := by rw [cell_of_block b1]; rfl
  have x2 : W1.cell? ⟨w.heap.size, 2, none⟩ = some (.slice pa P.length pc) := by rw [cell_of_block b1]; rfl
  have x3 : W1.cell? ⟨w.heap.size, 3, none⟩ = some (.slice ka K.length kc) := by rw [cell_of_block b1]; rfl
  have X2 : Hid (W1.cell? ⟨w.heap.size, 2, none⟩ = some (.slice pa P.length pc)) := x2
  have HW1 : Hid (W1 = w.alloc (.cells #[.int .i64 c, .slice fa F.length fc, .slice pa P.length pc, .slice ka K.length kc] 26)) := hW1
  have K1 : Hid (Keeps (fun _ => False) w W1) := k1
  have f1 : (F.length : Int) ≤ 140737488355328 := by omega
  have f2 : (K.length : Int) ≤ 140737488355328 := by omega
  have f5 : (P.length : Int) ≤ 140737488355328 := by omega
  have wn : IntKind.i64.wrap ((F.length : Int) + K.length) = ((F.length + K.length : Nat) : Int) := by rw [IntKind.wrap_i64]; omega
  rw [hW1] at x1 x2 x3
  clear hW1 k1 b1 lf lk lp h4
  go_enter Tryz.func5, Tryz.ntmps5
  go_wp2_with fail
  rw [← HW1.out]
  clear x1 x2 x3 wn
  go_loopw [3, 4] (fun u v wr => ∃ n k : Nat, u = .int .i64 (n : Int) ∧ v = .int .i64 (k : Int) ∧ k ≤ P.length ∧ k ≤ 301 ∧ wr = W1 ∧ Hid (n = F.length + K.length + sumN (P.take k) ∧ n ≤ (k + 2) * 140737488355328)) (fun _ v _ => 301 - (intOf v).toNat)
  case atStart => exact ⟨F.length + K.length, 0, by simp, rfl, Nat.zero_le _, by omega, rfl, by simp [sumN], by omega⟩
  case round =>
    obtain ⟨n, k, rfl, rfl, hk, hk2, rfl, hn⟩ := hrel
    have x2 := X2.out
    by_cases hlt : k < P.length
    · by_cases hlt2 : k ≤ 300
      · have hki : (k : Int) < P.length := by omega
        have hki2 : (k : Int) ≤ 300 := by omega
        obtain ⟨_, ⟨_, _, e1, e2, e3⟩, _⟩ := HA.out wr K1.out
        simp only [Value.slice.injEq] at e1
        obtain ⟨rfl, -, rfl⟩ := e1
        obtain ⟨g, off, v, rfl, cx, ia⟩ := e3 k hlt
        have e2' : P.length ≤ pc := e2
        have hkc : (k : Int) < pc := by omega
        obtain ⟨aa, ac, rfl, -⟩ := ia.form
        have hl := HX4.out _ (List.getElem_mem hlt)
        have hst := sumN_step hlt
        dsimp only at cx
        generalize (P[k]).length = L at *
        have hL : (L : Int) ≤ 140737488355328 := by omega
        have hn0 : (n : Int) ≤ 303 * 140737488355328 := by have := hn.out.2; omega
        have wa : IntKind.i64.wrap ((n : Int) + L) = ((n + L : Nat) : Int) := by rw [IntKind.wrap_i64]; omega
        have HN : Hid (n + L = F.length + K.length + sumN (P.take (k + 1)) ∧ n + L ≤ (k + 1 + 2) * 140737488355328) := ⟨by have := hn.out.1; omega, by have := hn.out.2; omega⟩
        clear e2 e3 ia hn hst hn0
        go_wp2_with fail
        go_roundw
        · exact ⟨n + L, k + 1, rfl, by simp, by omega, by omega, trivial, HN⟩
        · simp [intOf]; omega
      · have hki : (k : Int) < P.length := by omega
        have hki2 : ¬ (k : Int) ≤ 300 := by omega
        have hp3 : (300 : Int) < P.length := by omega
        go_wp2_with fail
        go_ret
        exact ⟨⟨_, rfl, fun f => by simp at f⟩, K1.out⟩
    · have hki : ¬ (k : Int) < P.length := by omega
      obtain rfl : k = P.length := by omega
      obtain ⟨q1, q2⟩ := hn.out
      rw [List.take_length] at q1
      by_cases hp3 : 300 < P.length
      · have hp3i : (300 : Int) < P.length := by omega
        go_wp2_with fail
        go_ret
        exact ⟨⟨_, rfl, fun f => by simp at f⟩, K1.out⟩
      · have hp3i : ¬ (300 : Int) < P.length := by omega
        by_cases hn2 : 2000 < n
        · have hn2i : (2000 : Int) < n := by omega
          clear q1 q2
          go_wp2_with fail
          go_ret
          exact ⟨⟨_, rfl, fun f => by simp at f⟩, K1.out⟩
        · have hn2i : ¬ (2000 : Int) < n := by omega
          have HQ : Hid (F.length + K.length + sumN P ≤ 2000) := by unfold Hid; omega
          clear q1 q2 hn
          go_wp2_with fail
          go_ret
          exact ⟨⟨_, rfl, fun _ => ⟨(by show P.length ≤ 300; omega), HQ.out⟩⟩, K1.out⟩
end Go.Proofs.YtppejcfghlpbjaaGreatDoor


/- Walk of AsmScript (package parleylaw09). No statement of the seat is proved here. -/
namespace Go.Proofs.YtppejcfghlpbjaaGreatDoor
open Go.RowKit Go.Shelf

/-- What a script that comes in is, besides how it lies. -/
structure Big (x : Sc) : Prop where
  cells : x.cells ≤ m63
  first : ∀ n ∈ x.first, n ≤ m64
  picks : ∀ n ∈ x.picks, n ≤ m32
  wf : ∀ p ∈ x.progs, ∀ i ∈ p, i.wf
  nf : x.first.length ≤ 140737488355328
  nk : x.picks.length ≤ 140737488355328
  np : x.progs.length ≤ 140737488355328
  each : ∀ p ∈ x.progs, p.length ≤ 140737488355328
theorem Big.low {x : Sc} (h : Big x) (hp : x.progs.length ≤ 300) (ha : x.first.length + x.picks.length + sumN x.progs ≤ 2000) : Low x :=
  ⟨⟨h.cells, h.first, h.picks, h.wf, by omega, by omega, hp, fun p q => by have := sumN_mem q; omega⟩, ha⟩
/-- What the program's Script and the document's answer: the same text and code; where the code is nought, the text is the script. -/
def Answ (x : Sc) (c : Int) (vf vp vk : Value) (w : World) (S : ByteArray) (E : Int) : Prop :=
  (∀ X uf up uk, Keeps (fun _ => False) w X → Cpy X uf up uk x → Calls Tryz.prog 8 #[.agg #[.int .i64 c, uf, up, uk]] X fun e X' => e = .returned (.tuple #[.string S, .int .i64 E]) ∧ Keeps (fun _ => False) X X') ∧
  (∀ X, Keeps (fun _ => False) w X → Calls Tryz.prog 9 #[.agg #[.int .i64 c, vf, vp, vk]] X fun e X' => e = .returned (.tuple #[.string S, .int .i64 E]) ∧ Keeps (fun _ => False) X X') ∧
  (E = 0 → ∀ X, Keeps (fun _ => False) w X → Calls Tryz.prog 11 #[.string S] X fun e X' => (∃ (n : Nat) (yf yp yk : Value), e = .returned (.tuple #[.agg #[.int .i64 c, yf, yp, yk], .int .i64 (n : Int), .int .i64 0]) ∧ ScAt X' yf yp yk x) ∧ Keeps (fun _ => False) X X')
theorem answ {x : Sc} (hx : Low x) (c : Int) (hc : c < 0 ∨ c = x.cells) (vf vp vk : Value) (w : World) (hw : Gq w) (h9 : 9 ≤ w.heap.size) (h : ScAt w vf vp vk x) : ∃ S E, Answ x c vf vp vk w S E := by
  rcases hc with hc | rfl
  · have fm : ∀ X uf up uk, ScAt X uf up uk x → (∃ a n k, uf = .slice a n k) ∧ (∃ a n k, up = .slice a n k) ∧ ∃ a n k, uk = .slice a n k := fun X uf up uk q => by
      obtain ⟨⟨a, b, e, _⟩, ⟨a2, b2, e2, _⟩, ⟨a3, b3, e3, _⟩⟩ := q
      exact ⟨⟨_, _, _, e⟩, ⟨_, _, _, e2⟩, ⟨_, _, _, e3⟩⟩
    refine ⟨⟨#[]⟩, 2, fun X uf up uk _ q => ?_, fun X k => ?_, fun f => by cases f⟩
    · obtain ⟨a, b, d⟩ := fm X uf up uk q.at
      exact script_neg c hc uf up uk X a b d
    · obtain ⟨a, b, d⟩ := fm X vf vp vk (h.keeps k)
      exact rscript_neg c hc vf vp vk X a b d
  · cases hf : allF x.progs with
    | false =>
      exact ⟨⟨#[]⟩, 180, fun X uf up uk k q => (script_any x hx.few uf up uk X (hw.gp.keeps k) q.at).mono fun e X' p => ⟨p.1.2 hf, p.2⟩, fun X k => (rscript_any x hx.few vf vp vk X (h.keeps k)).mono fun e X' p => ⟨p.1.2 hf, p.2⟩, fun f => by cases f⟩
    | true =>
      refine ⟨⟨(scrT x).toArray⟩, 0, fun X uf up uk k q => (script_any x hx.few uf up uk X (hw.gp.keeps k) q.at).mono fun e X' p => ⟨p.1.1 hf, p.2⟩, fun X k => (rscript_any x hx.few vf vp vk X (h.keeps k)).mono fun e X' p => ⟨p.1.1 hf, p.2⟩, fun _ X k => (pscript_any (scrT x) (hx.len hf) X (hw.keeps k) (Nat.le_trans h9 k.size)).mono fun e X' p => ⟨?_, p.2⟩⟩
      obtain ⟨n, hn⟩ := scrT_read (hx.good hf)
      have q := p.1
      unfold PSPost at q
      rw [hn] at q
      obtain ⟨yf, yp, yk, ps, rfl, hz⟩ := q
      exact ⟨n, yf, yp, yk, rfl, hz.at (fun p hp => by have := hx.few.each p hp; omega)⟩

set_option maxRecDepth 100000 in
set_option maxHeartbeats 40000000 in
theorem script_law (x : Sc) (hx : Big x) (c : Int) (hc : c < 0 ∨ c = x.cells) (vf vp vk : Value) (w : World) (hw : Gq w) (h9 : 9 ≤ w.heap.size) (h : ScAt w vf vp vk x) :
    Calls Tryz.prog 3 #[.agg #[.int .i64 c, vf, vp, vk]] w fun e w' => e = .returned (.bool true) ∧ Keeps (fun _ => False) w w' := by
  have HKN : Hid (∀ X, Keeps (fun _ => False) w X → Calls Tryz.prog 6 #[] X fun e X' => e = .returned (.bool true) ∧ Keeps (fun _ => False) X X') := fun X k => known_any X (hw.gp.keeps k)
  have HA : Hid (∀ X, Keeps (fun _ => False) w X → ScAt X vf vp vk x) := fun X k => h.keeps k
  have HL : Hid (x.progs.length ≤ 300 ∧ x.first.length + x.picks.length + sumN x.progs ≤ 2000 → Low x ∧ ∃ S E, Answ x c vf vp vk w S E) := fun q => ⟨hx.low q.1 q.2, answ (hx.low q.1 q.2) c hc vf vp vk w hw h9 h⟩
  obtain ⟨⟨fa, fc, rfl, lf, _⟩, ⟨pa, pc, rfl, lp, _⟩, ⟨ka, kc, rfl, lk, _⟩⟩ := h
  obtain ⟨W1, hW1⟩ : ∃ W, W = w.alloc (.cells #[.int .i64 c, .slice fa x.first.length fc, .slice pa x.progs.length pc, .slice ka x.picks.length kc] 26) := ⟨_, rfl⟩
  have k1 : Keeps (fun _ => False) w W1 := by rw [hW1]; exact (Keeps.refl _ w).alloc _
  have b1 : W1.heap[w.heap.size]? = some (.cells #[.int .i64 c, .slice fa x.first.length fc, .slice pa x.progs.length pc, .slice ka x.picks.length kc] 26 (0, 0)) := by rw [hW1]; exact alloc_block _ _
  have HBX : Hid (∀ X, Keeps (fun _ => False) W1 X → X.cell? ⟨w.heap.size, 0, none⟩ = some (.int .i64 c) ∧ X.cell? ⟨w.heap.size, 1, none⟩ = some (.slice fa x.first.length fc) ∧ X.cell? ⟨w.heap.size, 2, none⟩ = some (.slice pa x.progs.length pc) ∧ X.cell? ⟨w.heap.size, 3, none⟩ = some (.slice ka x.picks.length kc)) := fun X k => by
    have q := (k.block _ (lt_of_block b1) (fun f => f)).trans b1
    exact ⟨by rw [cell_of_block q]; rfl, by rw [cell_of_block q]; rfl, by rw [cell_of_block q]; rfl, by rw [cell_of_block q]; rfl⟩
  have HW1 : Hid (W1 = w.alloc (.cells #[.int .i64 c, .slice fa x.first.length fc, .slice pa x.progs.length pc, .slice ka x.picks.length kc] 26)) := hW1
  have K1 : Hid (Keeps (fun _ => False) w W1) := k1
  have MN := many_any x hx.nf hx.nk hx.each hx.np c (.slice fa x.first.length fc) (.slice pa x.progs.length pc) (.slice ka x.picks.length kc) W1 (HA.out W1 k1)
  rw [hW1] at MN
  clear hW1 k1 b1 hx hc hw h9 lf lp lk
  go_enter Tryz.func3, Tryz.ntmps3
  go_wp2_with fail
  refine MN.mono ?_
  rintro e w2 ⟨⟨b, rfl, hb⟩, k2⟩
  rw [← HW1.out] at k2
  clear MN HW1
  cases b with
  | true =>
    have KN := HKN.out w2 (K1.out.trans k2)
    have K2 : Hid (Keeps (fun _ => False) w w2) := K1.out.trans k2
    clear hb HA HL HBX HKN k2
    go_wp2_with fail
    refine KN.mono ?_
    rintro e w3 ⟨rfl, k3⟩
    have k4 := K2.out.trans k3
    clear KN k3
    go_wp2_with fail
    go_ret
    exact ⟨rfl, k4⟩
  | false =>
    obtain ⟨lo, S, E, a1, a2, a3⟩ := HL.out (hb rfl)
    have HS1 : Hid _ := a1
    have HS2 : Hid _ := a2
    have HS3 : Hid _ := a3
    have LO : Hid (Low x) := lo
    have CP := rcopys_any x lo.few c (.slice fa x.first.length fc) (.slice pa x.progs.length pc) (.slice ka x.picks.length kc) w2 (HA.out w2 (K1.out.trans k2))
    obtain ⟨x0, x1, x2, x3⟩ := HBX.out w2 k2
    have K2 : Hid (Keeps (fun _ => False) W1 w2) := k2
    clear a1 a2 a3 lo hb HL k2
    go_wp2_with fail
    refine CP.mono ?_
    rintro e w3 ⟨⟨uf, up, uk, rfl, cp⟩, k3⟩
    clear CP x0 x1 x2 x3
    have HCP : Hid (∀ X, Keeps (fun _ => False) w3 X → Cpy X uf up uk x) := fun X k => cp.keeps k
    obtain ⟨⟨gf, cf, rfl, -⟩, ⟨gk, ck, rfl, -⟩, ⟨gp, cp', gm, rfl, -⟩⟩ := cp
    obtain ⟨W4, hW4⟩ : ∃ W, W = w3.alloc (.cells #[.int .i64 c, .slice (some ⟨gf, 0, none⟩) x.first.length cf, .slice (some ⟨gp, 0, none⟩) x.progs.length cp', .slice (some ⟨gk, 0, none⟩) x.picks.length ck] 26) := ⟨_, rfl⟩
    have k4 : Keeps (fun _ => False) w3 W4 := by rw [hW4]; exact (Keeps.refl _ w3).alloc _
    have b4 : W4.heap[w3.heap.size]? = some (.cells #[.int .i64 c, .slice (some ⟨gf, 0, none⟩) x.first.length cf, .slice (some ⟨gp, 0, none⟩) x.progs.length cp', .slice (some ⟨gk, 0, none⟩) x.picks.length ck] 26 (0, 0)) := by rw [hW4]; exact alloc_block _ _
    have HBC : Hid (∀ X, Keeps (fun _ => False) W4 X → X.cell? ⟨w3.heap.size, 0, none⟩ = some (.int .i64 c) ∧ X.cell? ⟨w3.heap.size, 1, none⟩ = some (.slice (some ⟨gf, 0, none⟩) x.first.length cf) ∧ X.cell? ⟨w3.heap.size, 2, none⟩ = some (.slice (some ⟨gp, 0, none⟩) x.progs.length cp') ∧ X.cell? ⟨w3.heap.size, 3, none⟩ = some (.slice (some ⟨gk, 0, none⟩) x.picks.length ck)) := fun X k => by
      have q := (k.block _ (lt_of_block b4) (fun f => f)).trans b4
      exact ⟨by rw [cell_of_block q]; rfl, by rw [cell_of_block q]; rfl, by rw [cell_of_block q]; rfl, by rw [cell_of_block q]; rfl⟩
    have HW4 : Hid (W4 = w3.alloc (.cells #[.int .i64 c, .slice (some ⟨gf, 0, none⟩) x.first.length cf, .slice (some ⟨gp, 0, none⟩) x.progs.length cp', .slice (some ⟨gk, 0, none⟩) x.picks.length ck] 26)) := hW4
    have K4 : Hid (Keeps (fun _ => False) w3 W4) := k4
    have K14 : Hid (Keeps (fun _ => False) W1 W4) := K2.out.trans (k3.trans k4)
    have SP := HS1.out W4 (.slice (some ⟨gf, 0, none⟩) x.first.length cf) (.slice (some ⟨gp, 0, none⟩) x.progs.length cp') (.slice (some ⟨gk, 0, none⟩) x.picks.length ck) (K1.out.trans K14.out) (HCP.out W4 k4)
    rw [hW4] at SP
    clear hW4 k3 k4 b4 HS1 K2
    go_wp2_with fail
    refine SP.mono ?_
    rintro e w5 ⟨rfl, k5⟩
    rw [← HW4.out] at k5
    obtain ⟨x0, x1, x2, x3⟩ := HBX.out w5 (K14.out.trans k5)
    have RP := HS2.out w5 (K1.out.trans (K14.out.trans k5))
    have K5 : Hid (Keeps (fun _ => False) W4 w5) := k5
    clear SP HW4 HS2 k5
    go_wp2_with fail
    refine RP.mono ?_
    rintro e w6 ⟨rfl, k6⟩
    clear RP x0 x1 x2 x3
    have K6 : Hid (Keeps (fun _ => False) W4 w6) := K5.out.trans k6
    obtain ⟨x0, x1, x2, x3⟩ := HBX.out w6 (K14.out.trans K6.out)
    obtain ⟨y0, y1, y2, y3⟩ := HBC.out w6 K6.out
    have KT := rkepts_any x LO.out.few c (.slice (some ⟨gf, 0, none⟩) x.first.length cf) (.slice (some ⟨gp, 0, none⟩) x.progs.length cp') (.slice (some ⟨gk, 0, none⟩) x.picks.length ck) (.slice fa x.first.length fc) (.slice pa x.progs.length pc) (.slice ka x.picks.length kc) w6 (HCP.out w6 (K4.out.trans K6.out)) (HA.out w6 (K1.out.trans (K14.out.trans K6.out)))
    clear K5 k6 HCP K4 HBC
    generalize hgc : w3.heap.size = gC at *
    clear hgc
    go_wp2_with fail
    refine KT.mono ?_
    rintro e w7 ⟨rfl, k7⟩
    have K7 : Hid (Keeps (fun _ => False) W1 w7) := K14.out.trans (K6.out.trans k7)
    clear KT x0 x1 x2 x3 y0 y1 y2 y3 K6 k7 K14
    by_cases hE : E = 0
    · have PS := HS3.out hE w7 (K1.out.trans K7.out)
      clear HS3
      subst hE
      go_wp2_with fail
      refine PS.mono ?_
      rintro e w8 ⟨⟨n, yf, yp, yk, rfl, sy⟩, k8⟩
      clear PS
      have HY : Hid (∀ X, Keeps (fun _ => False) w8 X → ScAt X yf yp yk x) := fun X k => sy.keeps k
      obtain ⟨⟨ga, gc, rfl, -⟩, ⟨gp, cp', rfl, -⟩, ⟨gk, ck, rfl, -⟩⟩ := sy
      obtain ⟨W9, hW9⟩ : ∃ W, W = w8.alloc (.cells #[.int .i64 c, .slice ga x.first.length gc, .slice gp x.progs.length cp', .slice gk x.picks.length ck] 26) := ⟨_, rfl⟩
      have k9 : Keeps (fun _ => False) w8 W9 := by rw [hW9]; exact (Keeps.refl _ w8).alloc _
      have K9 : Hid (Keeps (fun _ => False) W1 W9) := K7.out.trans (k8.trans k9)
      obtain ⟨x0, x1, x2, x3⟩ := HBX.out W9 K9.out
      have lo := LO.out.few
      have SS := rsamescr_any c (.slice fa x.first.length fc) (.slice pa x.progs.length pc) (.slice ka x.picks.length kc) (.slice ga x.first.length gc) (.slice gp x.progs.length cp') (.slice gk x.picks.length ck) x (by have := lo.nf; omega) (by have := lo.np; omega) (by have := lo.nk; omega) (fun p hp => by have := lo.each p hp; omega) W9 (HA.out W9 (K1.out.trans K9.out)) (HY.out W9 k9)
      have HW9 : Hid (W9 = w8.alloc (.cells #[.int .i64 c, .slice ga x.first.length gc, .slice gp x.progs.length cp', .slice gk x.picks.length ck] 26)) := hW9
      have hne : w.heap.size ≠ w8.heap.size := by
        have a := K7.out.size
        have b := k8.size
        have d := World.block_lt_of_cell? _ _ (HBX.out W1 (Keeps.refl _ _)).1
        simp only at d
        omega
      rw [hW9] at SS x0 x1 x2 x3
      clear hW9 k8 k9 lo HY LO HA HBX K7
      go_wp2_with fail
      refine SS.mono ?_
      rintro e w10 ⟨rfl, k10⟩
      rw [← HW9.out] at k10
      have KN := HKN.out w10 (K1.out.trans (K9.out.trans k10))
      have K10 : Hid (Keeps (fun _ => False) w w10) := K1.out.trans (K9.out.trans k10)
      clear SS HKN HW9 k10 x0 x1 x2 x3 hne
      go_wp2_with fail
      refine KN.mono ?_
      rintro e w11 ⟨rfl, k11⟩
      have k12 := K10.out.trans k11
      clear KN k11
      go_wp2_with fail
      go_ret
      exact ⟨rfl, k12⟩
    · have KN := HKN.out w7 (K1.out.trans K7.out)
      have K8 : Hid (Keeps (fun _ => False) w w7) := K1.out.trans K7.out
      clear HS3 HA HBX HKN LO
      go_wp2_with fail
      refine KN.mono ?_
      rintro e w8 ⟨rfl, k8⟩
      have k9 := K8.out.trans k8
      clear KN k8
      go_wp2_with fail
      go_ret
      exact ⟨rfl, k9⟩
end Go.Proofs.YtppejcfghlpbjaaGreatDoor
