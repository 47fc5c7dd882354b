
/- The law's plays, a step of the kind 3 (layer 22). No statement of the seat is proved here. -/
import Derived.Test.YtifmpiiaebnbiaaSlC
namespace Go.Proofs.Ytifmpiiaebnbiaa
open Go.RowKit

set_option maxRecDepth 100000 in
set_option maxHeartbeats 4000000 in
theorem plays_3 (lv ro at_ x y : Int) (hok : St.Ok ⟨3, lv, ro, at_, x, y⟩) (b1 g1 c1 b2 g2 c2 : Nat) (s : Wd) (rms : Rm s 131300) (w : World) (h : Du w b1 g1 c1 b2 g2 c2 w s s) :
    Calls Try.prog 5 #[.pointer (some ⟨b1, 0, none⟩), .pointer (some ⟨b2, 0, none⟩), .agg #[.int .i64 3, .int .i64 lv, .int .u64 ro, .int .u64 at_, .int .u64 x, .int .u64 y]] w fun e w' => e = .returned (.bool true) ∧ Du w b1 g1 c1 b2 g2 c2 w' (pl ⟨3, lv, ro, at_, x, y⟩ s) (pl ⟨3, lv, ro, at_, x, y⟩ s) := by
  obtain ⟨hro, hat, hx, hy, _⟩ := hok
  have oks := h.t.ok
  have H0 := hid (st_new h ⟨3, lv, ro, at_, x, y⟩)
  clear h
  obtain ⟨⟨⟨b1_, e1⟩, s1⟩, eq1⟩ : ∃ r, s.ins ro at_ x lv = r := ⟨_, rfl⟩
  have hpl : pl ⟨3, lv, ro, at_, x, y⟩ s = s1 := by
    rw [pl3, eq1]
  rw [hpl]
  have hLL : s1.L.length ≤ 1000000 := by
    have q := ins_len oks ro at_ x lv
    rw [eq1] at q
    unfold Rm at rms
    have q2 : s1.L.length ≤ s.L.length + 131200 := q
    omega
  have HE : Hid (_ = _) := eq1
  clear eq1 hpl
  have c0 : (w.alloc (stO ⟨3, lv, ro, at_, x, y⟩)).cell? ⟨w.heap.size, 0, none⟩ = some (.int .i64 3) := by rw [cell_of_block H0.out.2.at_]; rfl
  have c1 : (w.alloc (stO ⟨3, lv, ro, at_, x, y⟩)).cell? ⟨w.heap.size, 1, none⟩ = some (.int .i64 lv) := by rw [cell_of_block H0.out.2.at_]; rfl
  have c2 : (w.alloc (stO ⟨3, lv, ro, at_, x, y⟩)).cell? ⟨w.heap.size, 2, none⟩ = some (.int .u64 ro) := by rw [cell_of_block H0.out.2.at_]; rfl
  have c3 : (w.alloc (stO ⟨3, lv, ro, at_, x, y⟩)).cell? ⟨w.heap.size, 3, none⟩ = some (.int .u64 at_) := by rw [cell_of_block H0.out.2.at_]; rfl
  have c4 : (w.alloc (stO ⟨3, lv, ro, at_, x, y⟩)).cell? ⟨w.heap.size, 4, none⟩ = some (.int .u64 x) := by rw [cell_of_block H0.out.2.at_]; rfl
  have c5 : (w.alloc (stO ⟨3, lv, ro, at_, x, y⟩)).cell? ⟨w.heap.size, 5, none⟩ = some (.int .u64 y) := by rw [cell_of_block H0.out.2.at_]; rfl
  dsimp only [stO] at c0 c1 c2 c3 c4 c5
  go_enter Try.func5, Try.ntmps5
  go_wp2_with fail
  refine (ins_r HE hro hat hx (rms.le (by omega)) H0.out.1.t).mono ?_
  rintro e_ w1 ⟨rfl, h1⟩
  have H1 := hid (And.intro (H0.out.1.tx h1) (H0.out.2.tx H0.out.1 h1))
  clear H0 h1
  clear c0 c1 c2 c3 c4 c5
  have c0 : w1.cell? ⟨w.heap.size, 0, none⟩ = some (.int .i64 3) := by rw [cell_of_block H1.out.2.at_]; rfl
  have c1 : w1.cell? ⟨w.heap.size, 1, none⟩ = some (.int .i64 lv) := by rw [cell_of_block H1.out.2.at_]; rfl
  have c2 : w1.cell? ⟨w.heap.size, 2, none⟩ = some (.int .u64 ro) := by rw [cell_of_block H1.out.2.at_]; rfl
  have c3 : w1.cell? ⟨w.heap.size, 3, none⟩ = some (.int .u64 at_) := by rw [cell_of_block H1.out.2.at_]; rfl
  have c4 : w1.cell? ⟨w.heap.size, 4, none⟩ = some (.int .u64 x) := by rw [cell_of_block H1.out.2.at_]; rfl
  have c5 : w1.cell? ⟨w.heap.size, 5, none⟩ = some (.int .u64 y) := by rw [cell_of_block H1.out.2.at_]; rfl
  go_wp2_with fail
  refine (rins_r HE hro hat hx (rms.le (by omega)) H1.out.1.r).mono ?_
  rintro e_ w2 ⟨rfl, h2⟩
  have H2 := hid (H1.out.1.tp h2)
  clear H1 h2 HE
  clear c0 c1 c2 c3 c4 c5
  go_wp2_with fail
  refine (num_any _ _).mono ?_
  rintro e_ w_ ⟨rfl, hw_⟩
  subst w_
  obtain ⟨lv1, hc1, hlo1⟩ := H2.out.t.log
  obtain ⟨lv2, hc2, hlo2⟩ := H2.out.r.log
  have hd1 := H2.out.t.cell0
  have hd2 := H2.out.r.cell0
  have HLO1 := hid hlo1
  have HLO2 := hid hlo2
  clear hlo1 hlo2
  go_wp2_with fail
  refine wp_held_end (S := fun W : World => W.cell? ⟨b1, 0, none⟩ = some (.slice (adr g1 c1) s1.W.length c1) ∧ W.cell? ⟨b1, 1, none⟩ = some lv1 ∧ W.cell? ⟨b2, 0, none⟩ = some (.slice (adr g2 c2) s1.W.length c2) ∧ W.cell? ⟨b2, 1, none⟩ = some lv2) 24 rfl hmxp ?_
  simp only [Array.replicate_succ, Array.replicate_zero, List.push_toArray, List.nil_append, List.cons_append]
  refine held_take (i := 0) (v := (.bool true)) 336 rfl rfl (by kernel_rfl) (by kernel_rfl) (by kernel_rfl) rfl (fun w' hw' => by obtain ⟨q0, q1, q2, q3⟩ := hw'; go_simp) ⟨hd1, hc1, hd2, hc2⟩ ?_
  simp only [Act.put, List.setIfInBounds_toArray, List.set_cons_zero, List.set_cons_succ]
  refine held_take (i := 1) (v := (.bool true)) 337 rfl rfl (by kernel_rfl) (by kernel_rfl) (by kernel_rfl) rfl (fun w' hw' => by obtain ⟨q0, q1, q2, q3⟩ := hw'; go_simp) ⟨hd1, hc1, hd2, hc2⟩ ?_
  simp only [Act.put, List.setIfInBounds_toArray, List.set_cons_zero, List.set_cons_succ]
  refine held_take (i := 2) (v := (.pointer (some ⟨b1, 0, none⟩))) 338 rfl rfl (by kernel_rfl) (by kernel_rfl) (by kernel_rfl) rfl (fun w' hw' => by obtain ⟨q0, q1, q2, q3⟩ := hw'; go_simp) ⟨hd1, hc1, hd2, hc2⟩ ?_
  simp only [Act.put, List.setIfInBounds_toArray, List.set_cons_zero, List.set_cons_succ]
  refine held_take (i := 3) (v := (.pointer (some ⟨b1, 0, none⟩))) 339 rfl rfl (by kernel_rfl) (by kernel_rfl) (by kernel_rfl) rfl (fun w' hw' => by obtain ⟨q0, q1, q2, q3⟩ := hw'; go_simp) ⟨hd1, hc1, hd2, hc2⟩ ?_
  simp only [Act.put, List.setIfInBounds_toArray, List.set_cons_zero, List.set_cons_succ]
  refine held_take (i := 4) (v := (.pointer (some ⟨b1, 1, none⟩))) 340 rfl rfl (by kernel_rfl) (by kernel_rfl) (by kernel_rfl) rfl (fun w' hw' => by obtain ⟨q0, q1, q2, q3⟩ := hw'; go_simp) ⟨hd1, hc1, hd2, hc2⟩ ?_
  simp only [Act.put, List.setIfInBounds_toArray, List.set_cons_zero, List.set_cons_succ]
  refine held_take (i := 5) (v := (lv1)) 341 rfl rfl (by kernel_rfl) (by kernel_rfl) (by kernel_rfl) rfl (fun w' hw' => by obtain ⟨q0, q1, q2, q3⟩ := hw'; go_simp) ⟨hd1, hc1, hd2, hc2⟩ ?_
  simp only [Act.put, List.setIfInBounds_toArray, List.set_cons_zero, List.set_cons_succ]
  refine held_take (i := 6) (v := (.pointer (some ⟨b2, 0, none⟩))) 342 rfl rfl (by kernel_rfl) (by kernel_rfl) (by kernel_rfl) rfl (fun w' hw' => by obtain ⟨q0, q1, q2, q3⟩ := hw'; go_simp) ⟨hd1, hc1, hd2, hc2⟩ ?_
  simp only [Act.put, List.setIfInBounds_toArray, List.set_cons_zero, List.set_cons_succ]
  refine held_take (i := 7) (v := (.pointer (some ⟨b2, 0, none⟩))) 343 rfl rfl (by kernel_rfl) (by kernel_rfl) (by kernel_rfl) rfl (fun w' hw' => by obtain ⟨q0, q1, q2, q3⟩ := hw'; go_simp) ⟨hd1, hc1, hd2, hc2⟩ ?_
  simp only [Act.put, List.setIfInBounds_toArray, List.set_cons_zero, List.set_cons_succ]
  refine held_take (i := 8) (v := (.pointer (some ⟨b2, 1, none⟩))) 344 rfl rfl (by kernel_rfl) (by kernel_rfl) (by kernel_rfl) rfl (fun w' hw' => by obtain ⟨q0, q1, q2, q3⟩ := hw'; go_simp) ⟨hd1, hc1, hd2, hc2⟩ ?_
  simp only [Act.put, List.setIfInBounds_toArray, List.set_cons_zero, List.set_cons_succ]
  refine held_take (i := 9) (v := (lv2)) 345 rfl rfl (by kernel_rfl) (by kernel_rfl) (by kernel_rfl) rfl (fun w' hw' => by obtain ⟨q0, q1, q2, q3⟩ := hw'; go_simp) ⟨hd1, hc1, hd2, hc2⟩ ?_
  simp only [Act.put, List.setIfInBounds_toArray, List.set_cons_zero, List.set_cons_succ]
  refine held_call (i := 10) (f := 33) (args := #[lv1, lv2]) 346 (by kernel_rfl) rfl rfl rfl (by go_simp) ?_
  refine (sameLogs_any lv1 lv2 s1.L hLL w2.drew HLO1.out HLO2.out).mono ?_
  rintro e_ Y1 ⟨rfl, n1, hY1⟩
  have S1 : Y1.cell? ⟨b1, 0, none⟩ = some (.slice (adr g1 c1) s1.W.length c1) ∧ Y1.cell? ⟨b1, 1, none⟩ = some lv1 ∧ Y1.cell? ⟨b2, 0, none⟩ = some (.slice (adr g2 c2) s1.W.length c2) ∧ Y1.cell? ⟨b2, 1, none⟩ = some lv2 := by rw [hY1]; exact ⟨hd1, hc1, hd2, hc2⟩
  have HY1 : Hid (Du w b1 g1 c1 b2 g2 c2 Y1 s1 s1) := by rw [hY1]; exact hid (H2.out.new (((Keeps.refl _ _).drew).drewN n1))
  clear hY1
  refine ⟨_, rfl, S1, ?_⟩
  simp only [Act.put, List.setIfInBounds_toArray, List.set_cons_zero, List.set_cons_succ]
  refine held_take (i := 11) (v := (.bool true)) 347 rfl rfl (by kernel_rfl) (by kernel_rfl) (by kernel_rfl) rfl (fun w' hw' => by obtain ⟨q0, q1, q2, q3⟩ := hw'; go_simp) S1 ?_
  simp only [Act.put, List.setIfInBounds_toArray, List.set_cons_zero, List.set_cons_succ]
  refine held_take (i := 12) (v := (.bool true)) 348 rfl rfl (by kernel_rfl) (by kernel_rfl) (by kernel_rfl) rfl (fun w' hw' => by obtain ⟨q0, q1, q2, q3⟩ := hw'; go_simp) S1 ?_
  simp only [Act.put, List.setIfInBounds_toArray, List.set_cons_zero, List.set_cons_succ]
  refine held_take (i := 13) (v := (.pointer (some ⟨b1, 0, none⟩))) 349 rfl rfl (by kernel_rfl) (by kernel_rfl) (by kernel_rfl) rfl (fun w' hw' => by obtain ⟨q0, q1, q2, q3⟩ := hw'; go_simp) S1 ?_
  simp only [Act.put, List.setIfInBounds_toArray, List.set_cons_zero, List.set_cons_succ]
  refine held_take (i := 14) (v := (.pointer (some ⟨b1, 0, none⟩))) 350 rfl rfl (by kernel_rfl) (by kernel_rfl) (by kernel_rfl) rfl (fun w' hw' => by obtain ⟨q0, q1, q2, q3⟩ := hw'; go_simp) S1 ?_
  simp only [Act.put, List.setIfInBounds_toArray, List.set_cons_zero, List.set_cons_succ]
  refine held_take (i := 15) (v := (.pointer (some ⟨b1, 0, none⟩))) 351 rfl rfl (by kernel_rfl) (by kernel_rfl) (by kernel_rfl) rfl (fun w' hw' => by obtain ⟨q0, q1, q2, q3⟩ := hw'; go_simp) S1 ?_
  simp only [Act.put, List.setIfInBounds_toArray, List.set_cons_zero, List.set_cons_succ]
  refine held_take (i := 16) (v := (.slice (adr g1 c1) s1.W.length c1)) 352 rfl rfl (by kernel_rfl) (by kernel_rfl) (by kernel_rfl) rfl (fun w' hw' => by obtain ⟨q0, q1, q2, q3⟩ := hw'; go_simp) S1 ?_
  simp only [Act.put, List.setIfInBounds_toArray, List.set_cons_zero, List.set_cons_succ]
  refine held_take (i := 17) (v := (.pointer (some ⟨b2, 0, none⟩))) 353 rfl rfl (by kernel_rfl) (by kernel_rfl) (by kernel_rfl) rfl (fun w' hw' => by obtain ⟨q0, q1, q2, q3⟩ := hw'; go_simp) S1 ?_
  simp only [Act.put, List.setIfInBounds_toArray, List.set_cons_zero, List.set_cons_succ]
  refine held_take (i := 18) (v := (.pointer (some ⟨b2, 0, none⟩))) 354 rfl rfl (by kernel_rfl) (by kernel_rfl) (by kernel_rfl) rfl (fun w' hw' => by obtain ⟨q0, q1, q2, q3⟩ := hw'; go_simp) S1 ?_
  simp only [Act.put, List.setIfInBounds_toArray, List.set_cons_zero, List.set_cons_succ]
  refine held_take (i := 19) (v := (.pointer (some ⟨b2, 0, none⟩))) 355 rfl rfl (by kernel_rfl) (by kernel_rfl) (by kernel_rfl) rfl (fun w' hw' => by obtain ⟨q0, q1, q2, q3⟩ := hw'; go_simp) S1 ?_
  simp only [Act.put, List.setIfInBounds_toArray, List.set_cons_zero, List.set_cons_succ]
  refine held_take (i := 20) (v := (.slice (adr g2 c2) s1.W.length c2)) 356 rfl rfl (by kernel_rfl) (by kernel_rfl) (by kernel_rfl) rfl (fun w' hw' => by obtain ⟨q0, q1, q2, q3⟩ := hw'; go_simp) S1 ?_
  simp only [Act.put, List.setIfInBounds_toArray, List.set_cons_zero, List.set_cons_succ]
  refine held_call (i := 21) (f := 16) (args := #[.slice (adr g1 c1) s1.W.length c1, .slice (adr g2 c2) s1.W.length c2]) 357 (by kernel_rfl) rfl rfl rfl (by go_simp) ?_
  refine (words_same _ _ s1.W HY1.out.t.ok.2 _ HY1.out.t.lies HY1.out.r.lies).mono ?_
  rintro e_ Y2 ⟨rfl, n2, hY2⟩
  have S2 : Y2.cell? ⟨b1, 0, none⟩ = some (.slice (adr g1 c1) s1.W.length c1) ∧ Y2.cell? ⟨b1, 1, none⟩ = some lv1 ∧ Y2.cell? ⟨b2, 0, none⟩ = some (.slice (adr g2 c2) s1.W.length c2) ∧ Y2.cell? ⟨b2, 1, none⟩ = some lv2 := by rw [hY2]; exact S1
  have HY2 : Hid (Du w b1 g1 c1 b2 g2 c2 Y2 s1 s1) := by rw [hY2]; exact hid (HY1.out.new ((Keeps.refl _ _).drewN n2))
  clear hY2
  refine ⟨_, rfl, S2, ?_⟩
  simp only [Act.put, List.setIfInBounds_toArray, List.set_cons_zero, List.set_cons_succ]
  refine held_take (i := 22) (v := (.bool true)) 358 rfl rfl (by kernel_rfl) (by kernel_rfl) (by kernel_rfl) rfl (fun w' hw' => by obtain ⟨q0, q1, q2, q3⟩ := hw'; go_simp) S2 ?_
  simp only [Act.put, List.setIfInBounds_toArray, List.set_cons_zero, List.set_cons_succ]
  refine held_take (i := 23) (v := (.bool true)) 6 rfl rfl (by kernel_rfl) (by kernel_rfl) (by kernel_rfl) rfl (fun w' hw' => by obtain ⟨q0, q1, q2, q3⟩ := hw'; go_simp) S2 ?_
  simp only [Act.put, List.setIfInBounds_toArray, List.set_cons_zero, List.set_cons_succ]
  refine held_end (by kernel_rfl) ?_ _
  clear S1 S2 HY1 HLO1 HLO2 hc1 hc2 hd1 hd2
  go_wp2_with fail
  go_ret
  exact ⟨rfl, HY2.out⟩
end Go.Proofs.Ytifmpiiaebnbiaa
