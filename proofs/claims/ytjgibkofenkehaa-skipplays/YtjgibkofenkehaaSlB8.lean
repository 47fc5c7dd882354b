
/- The law's plays, a step of the kind 8 (layer 22). No statement of the seat is proved here. -/
import Derived.Test.YtjgibkofenkehaaSlEM
import Derived.Test.YtjgibkofenkehaaSkS
namespace Go.Proofs.Ytjgibkofenkehaa
open Go.RowKit

set_option maxRecDepth 100000 in
set_option maxHeartbeats 4000000 in
theorem plays_8 (lv ro at_ x y : Int) (hok : St.Ok ⟨8, lv, ro, at_, x, y⟩) (b1 g1 c1 b2 g2 c2 : Nat) (s : Wd) (rms : Rm s 131300) (w : World) (h : Du w b1 g1 c1 b2 g2 c2 w s s) :
    Calls Try.prog 9 #[.pointer (some ⟨b1, 0, none⟩), .pointer (some ⟨b2, 0, none⟩), .agg #[.int .i64 8, .int .i64 lv, .int .u64 ro, .int .u64 at_, .int .u64 x, .int .u64 y]] w fun e w' => e = .returned (.bool true) ∧ Du w b1 g1 c1 b2 g2 c2 w' (pl ⟨8, lv, ro, at_, x, y⟩ s) (pl ⟨8, lv, ro, at_, x, y⟩ s) := by
  obtain ⟨hro, hat, hx, hy, _⟩ := hok
  have oks := h.t.ok
  have H0 := hid (st_new h ⟨8, lv, ro, at_, x, y⟩)
  clear h
  obtain ⟨⟨⟨L, e1⟩, s1⟩, eq1⟩ : ∃ r, s.keys at_ = r := ⟨_, rfl⟩
  have hL7 : L.length ≤ 70000 := by
    have q := keys_out s at_
    rw [eq1] at q
    exact q
  rw [pl8, eq1]
  have hLL : s1.L.length ≤ 1000000 := by
    have q := keys_len oks hat
    rw [eq1] at q
    unfold Rm at rms
    have q2 : s1.L.length ≤ s.L.length + 131200 := q
    omega
  have HE : Hid (_ = _) := eq1
  have HL7 := hid hL7
  clear eq1 hL7
  have c0 : (w.alloc (stO ⟨8, lv, ro, at_, x, y⟩)).cell? ⟨w.heap.size, 0, none⟩ = some (.int .i64 8) := by rw [cell_of_block H0.out.2.at_]; rfl
  have c1 : (w.alloc (stO ⟨8, lv, ro, at_, x, y⟩)).cell? ⟨w.heap.size, 1, none⟩ = some (.int .i64 lv) := by rw [cell_of_block H0.out.2.at_]; rfl
  have c2 : (w.alloc (stO ⟨8, lv, ro, at_, x, y⟩)).cell? ⟨w.heap.size, 2, none⟩ = some (.int .u64 ro) := by rw [cell_of_block H0.out.2.at_]; rfl
  have c3 : (w.alloc (stO ⟨8, lv, ro, at_, x, y⟩)).cell? ⟨w.heap.size, 3, none⟩ = some (.int .u64 at_) := by rw [cell_of_block H0.out.2.at_]; rfl
  have c4 : (w.alloc (stO ⟨8, lv, ro, at_, x, y⟩)).cell? ⟨w.heap.size, 4, none⟩ = some (.int .u64 x) := by rw [cell_of_block H0.out.2.at_]; rfl
  have c5 : (w.alloc (stO ⟨8, lv, ro, at_, x, y⟩)).cell? ⟨w.heap.size, 5, none⟩ = some (.int .u64 y) := by rw [cell_of_block H0.out.2.at_]; rfl
  dsimp only [stO] at c0 c1 c2 c3 c4 c5
  go_enter Try.func9, Try.ntmps9
  go_wp2_with fail
  refine (keys_r HE hat (rms.le (by omega)) H0.out.1.t).mono ?_
  rintro e_ w1 ⟨v, rfl, hv, hno, h1⟩
  have HV1 := hid (And.intro hv (And.intro hno h1))
  obtain ⟨va, vc, rfl⟩ := hv.form
  have H1 := hid (And.intro (H0.out.1.tx h1) (H0.out.2.tx H0.out.1 h1))
  clear h1 hv hno
  clear c0 c1 c2 c3 c4 c5
  have c0 : w1.cell? ⟨w.heap.size, 0, none⟩ = some (.int .i64 8) := by rw [cell_of_block H1.out.2.at_]; rfl
  have c1 : w1.cell? ⟨w.heap.size, 1, none⟩ = some (.int .i64 lv) := by rw [cell_of_block H1.out.2.at_]; rfl
  have c2 : w1.cell? ⟨w.heap.size, 2, none⟩ = some (.int .u64 ro) := by rw [cell_of_block H1.out.2.at_]; rfl
  have c3 : w1.cell? ⟨w.heap.size, 3, none⟩ = some (.int .u64 at_) := by rw [cell_of_block H1.out.2.at_]; rfl
  have c4 : w1.cell? ⟨w.heap.size, 4, none⟩ = some (.int .u64 x) := by rw [cell_of_block H1.out.2.at_]; rfl
  have c5 : w1.cell? ⟨w.heap.size, 5, none⟩ = some (.int .u64 y) := by rw [cell_of_block H1.out.2.at_]; rfl
  go_wp2_with fail
  refine (rkeys_r HE hat (rms.le (by omega)) H1.out.1.r).mono ?_
  rintro e_ w2 ⟨v2, rfl, hv2, _, h2⟩
  have HT := hid (told_on H0.out.1 HV1.out.2.2 HV1.out.1 HV1.out.2.1 h2)
  have hX : w.heap.size + 1 ≤ w2.heap.size := by
    have q1 := H1.out.1.k.size
    have q2 := h2.k.k.size
    have q3 := HV1.out.2.2.k.k.size
    have q4 : (w.alloc (stO ⟨8, lv, ro, at_, x, y⟩)).heap.size = w.heap.size + 1 := by simp
    omega
  have HW := hid (words_same (.slice va L.length vc) v2 L (by have q := HL7.out; omega) w2 HT.out.1.lies hv2.lies)
  obtain ⟨ua, uc, rfl⟩ := hv2.form
  have HX := hid hX
  have H3 := hid (H1.out.1.tp h2)
  clear H1 H0 HV1 h2 HE hv2 hX
  clear c0 c1 c2 c3 c4 c5
  go_wp2_with fail
  refine (num_any _ _).mono ?_
  rintro e_ w_ ⟨rfl, hw_⟩
  subst w_
  go_wp2_with fail
  refine HW.out.mono ?_
  rintro e_ w3 ⟨rfl, n3, hw3⟩
  have HT3 : Hid (Wr w3 (w.alloc (stO ⟨8, lv, ro, at_, x, y⟩)).heap.size (.slice va L.length vc) L ∧ (∀ k, (Value.slice va L.length vc).ownBlock = some k → w.heap.size ≤ k ∧ ¬ own w3 b1 g1 k ∧ ¬ own w3 b2 g2 k) ∧ Du w b1 g1 c1 b2 g2 c2 w3 s1 s1 ∧ w.heap.size + 1 ≤ w3.heap.size) := by
    rw [hw3]
    exact hid ⟨own_keep HT.out.1 (fun _ _ => rfl), HT.out.2, H3.out.new ((Keeps.refl _ _).drewN n3), HX.out⟩
  clear HT H3 HW hw3 HX
  go_wp2_with fail
  have b0 := alloc_block w3 (.cells #[.slice va L.length vc] 22)
  have k0 := keeps_new w3 (.cells #[.slice va L.length vc] 22)
  have HA := hid (apart1 w3.heap.size (.slice va L.length vc) L (w.alloc (stO ⟨8, lv, ro, at_, x, y⟩)).heap.size HL7.out (w3.alloc (.cells #[.slice va L.length vc] 22)) (by have := HT3.out.2.2.2; simp; omega) (by rw [cell_of_block b0]; rfl) (own_keeps HT3.out.1 k0 (fun _ _ f => f)) (fun e => by have := (own_block HT3.out.1 e).1; omega))
  clear b0 k0
  refine HA.out.mono ?_
  rintro e_ w4 ⟨rfl, k4⟩
  have H2 : Hid (Du w b1 g1 c1 b2 g2 c2 w4 s1 s1) := by
    have k0 := keeps_new w3 (.cells #[.slice va L.length vc] 22)
    have d0 := HT3.out.2.2.1
    exact hid ((d0.new k0).step k4 (fun i e => by
      have q := HT3.out.2.1 i e
      exact ⟨q.1, fun f => q.2.1 ((own_kept d0.t.ltb k0 (fun _ _ f => f) i).1 f), fun f => q.2.2 ((own_kept d0.r.ltb k0 (fun _ _ f => f) i).1 f)⟩))
  clear HT3 HA k4 HL7
  obtain ⟨lv1, hc1, hlo1⟩ := H2.out.t.log
  obtain ⟨lv2, hc2, hlo2⟩ := H2.out.r.log
  have hd1 := H2.out.t.cell0
  have hd2 := H2.out.r.cell0
  have HLO1 := hid hlo1
  have HLO2 := hid hlo2
  clear hlo1 hlo2
  go_wp2_with fail
  refine wp_held_end (S := fun W : World => W.cell? ⟨b1, 0, none⟩ = some (.slice (adr g1 c1) s1.W.length c1) ∧ W.cell? ⟨b1, 1, none⟩ = some lv1 ∧ W.cell? ⟨b2, 0, none⟩ = some (.slice (adr g2 c2) s1.W.length c2) ∧ W.cell? ⟨b2, 1, none⟩ = some lv2) 24 rfl hmxp ?_
  simp only [Array.replicate_succ, Array.replicate_zero, List.push_toArray, List.nil_append, List.cons_append]
  refine held_take (i := 0) (v := (.bool true)) 336 rfl rfl (by kernel_rfl) (by kernel_rfl) (by kernel_rfl) rfl (fun w' hw' => by obtain ⟨q0, q1, q2, q3⟩ := hw'; go_simp) ⟨hd1, hc1, hd2, hc2⟩ ?_
  simp only [Act.put, List.setIfInBounds_toArray, List.set_cons_zero, List.set_cons_succ]
  refine held_take (i := 1) (v := (.bool true)) 337 rfl rfl (by kernel_rfl) (by kernel_rfl) (by kernel_rfl) rfl (fun w' hw' => by obtain ⟨q0, q1, q2, q3⟩ := hw'; go_simp) ⟨hd1, hc1, hd2, hc2⟩ ?_
  simp only [Act.put, List.setIfInBounds_toArray, List.set_cons_zero, List.set_cons_succ]
  refine held_take (i := 2) (v := (.pointer (some ⟨b1, 0, none⟩))) 338 rfl rfl (by kernel_rfl) (by kernel_rfl) (by kernel_rfl) rfl (fun w' hw' => by obtain ⟨q0, q1, q2, q3⟩ := hw'; go_simp) ⟨hd1, hc1, hd2, hc2⟩ ?_
  simp only [Act.put, List.setIfInBounds_toArray, List.set_cons_zero, List.set_cons_succ]
  refine held_take (i := 3) (v := (.pointer (some ⟨b1, 0, none⟩))) 339 rfl rfl (by kernel_rfl) (by kernel_rfl) (by kernel_rfl) rfl (fun w' hw' => by obtain ⟨q0, q1, q2, q3⟩ := hw'; go_simp) ⟨hd1, hc1, hd2, hc2⟩ ?_
  simp only [Act.put, List.setIfInBounds_toArray, List.set_cons_zero, List.set_cons_succ]
  refine held_take (i := 4) (v := (.pointer (some ⟨b1, 1, none⟩))) 340 rfl rfl (by kernel_rfl) (by kernel_rfl) (by kernel_rfl) rfl (fun w' hw' => by obtain ⟨q0, q1, q2, q3⟩ := hw'; go_simp) ⟨hd1, hc1, hd2, hc2⟩ ?_
  simp only [Act.put, List.setIfInBounds_toArray, List.set_cons_zero, List.set_cons_succ]
  refine held_take (i := 5) (v := (lv1)) 341 rfl rfl (by kernel_rfl) (by kernel_rfl) (by kernel_rfl) rfl (fun w' hw' => by obtain ⟨q0, q1, q2, q3⟩ := hw'; go_simp) ⟨hd1, hc1, hd2, hc2⟩ ?_
  simp only [Act.put, List.setIfInBounds_toArray, List.set_cons_zero, List.set_cons_succ]
  refine held_take (i := 6) (v := (.pointer (some ⟨b2, 0, none⟩))) 342 rfl rfl (by kernel_rfl) (by kernel_rfl) (by kernel_rfl) rfl (fun w' hw' => by obtain ⟨q0, q1, q2, q3⟩ := hw'; go_simp) ⟨hd1, hc1, hd2, hc2⟩ ?_
  simp only [Act.put, List.setIfInBounds_toArray, List.set_cons_zero, List.set_cons_succ]
  refine held_take (i := 7) (v := (.pointer (some ⟨b2, 0, none⟩))) 343 rfl rfl (by kernel_rfl) (by kernel_rfl) (by kernel_rfl) rfl (fun w' hw' => by obtain ⟨q0, q1, q2, q3⟩ := hw'; go_simp) ⟨hd1, hc1, hd2, hc2⟩ ?_
  simp only [Act.put, List.setIfInBounds_toArray, List.set_cons_zero, List.set_cons_succ]
  refine held_take (i := 8) (v := (.pointer (some ⟨b2, 1, none⟩))) 344 rfl rfl (by kernel_rfl) (by kernel_rfl) (by kernel_rfl) rfl (fun w' hw' => by obtain ⟨q0, q1, q2, q3⟩ := hw'; go_simp) ⟨hd1, hc1, hd2, hc2⟩ ?_
  simp only [Act.put, List.setIfInBounds_toArray, List.set_cons_zero, List.set_cons_succ]
  refine held_take (i := 9) (v := (lv2)) 345 rfl rfl (by kernel_rfl) (by kernel_rfl) (by kernel_rfl) rfl (fun w' hw' => by obtain ⟨q0, q1, q2, q3⟩ := hw'; go_simp) ⟨hd1, hc1, hd2, hc2⟩ ?_
  simp only [Act.put, List.setIfInBounds_toArray, List.set_cons_zero, List.set_cons_succ]
  refine held_call (i := 10) (f := 41) (args := #[lv1, lv2]) 346 (by kernel_rfl) rfl rfl rfl (by go_simp) ?_
  refine (sameLogs_any lv1 lv2 s1.L hLL w4.drew HLO1.out HLO2.out).mono ?_
  rintro e_ Y1 ⟨rfl, n1, hY1⟩
  have S1 : Y1.cell? ⟨b1, 0, none⟩ = some (.slice (adr g1 c1) s1.W.length c1) ∧ Y1.cell? ⟨b1, 1, none⟩ = some lv1 ∧ Y1.cell? ⟨b2, 0, none⟩ = some (.slice (adr g2 c2) s1.W.length c2) ∧ Y1.cell? ⟨b2, 1, none⟩ = some lv2 := by rw [hY1]; exact ⟨hd1, hc1, hd2, hc2⟩
  have HY1 : Hid (Du w b1 g1 c1 b2 g2 c2 Y1 s1 s1) := by rw [hY1]; exact hid (H2.out.new (((Keeps.refl _ _).drew).drewN n1))
  clear hY1
  refine ⟨_, rfl, S1, ?_⟩
  simp only [Act.put, List.setIfInBounds_toArray, List.set_cons_zero, List.set_cons_succ]
  refine held_take (i := 11) (v := (.bool true)) 347 rfl rfl (by kernel_rfl) (by kernel_rfl) (by kernel_rfl) rfl (fun w' hw' => by obtain ⟨q0, q1, q2, q3⟩ := hw'; go_simp) S1 ?_
  simp only [Act.put, List.setIfInBounds_toArray, List.set_cons_zero, List.set_cons_succ]
  refine held_take (i := 12) (v := (.bool true)) 348 rfl rfl (by kernel_rfl) (by kernel_rfl) (by kernel_rfl) rfl (fun w' hw' => by obtain ⟨q0, q1, q2, q3⟩ := hw'; go_simp) S1 ?_
  simp only [Act.put, List.setIfInBounds_toArray, List.set_cons_zero, List.set_cons_succ]
  refine held_take (i := 13) (v := (.pointer (some ⟨b1, 0, none⟩))) 349 rfl rfl (by kernel_rfl) (by kernel_rfl) (by kernel_rfl) rfl (fun w' hw' => by obtain ⟨q0, q1, q2, q3⟩ := hw'; go_simp) S1 ?_
  simp only [Act.put, List.setIfInBounds_toArray, List.set_cons_zero, List.set_cons_succ]
  refine held_take (i := 14) (v := (.pointer (some ⟨b1, 0, none⟩))) 350 rfl rfl (by kernel_rfl) (by kernel_rfl) (by kernel_rfl) rfl (fun w' hw' => by obtain ⟨q0, q1, q2, q3⟩ := hw'; go_simp) S1 ?_
  simp only [Act.put, List.setIfInBounds_toArray, List.set_cons_zero, List.set_cons_succ]
  refine held_take (i := 15) (v := (.pointer (some ⟨b1, 0, none⟩))) 351 rfl rfl (by kernel_rfl) (by kernel_rfl) (by kernel_rfl) rfl (fun w' hw' => by obtain ⟨q0, q1, q2, q3⟩ := hw'; go_simp) S1 ?_
  simp only [Act.put, List.setIfInBounds_toArray, List.set_cons_zero, List.set_cons_succ]
  refine held_take (i := 16) (v := (.slice (adr g1 c1) s1.W.length c1)) 352 rfl rfl (by kernel_rfl) (by kernel_rfl) (by kernel_rfl) rfl (fun w' hw' => by obtain ⟨q0, q1, q2, q3⟩ := hw'; go_simp) S1 ?_
  simp only [Act.put, List.setIfInBounds_toArray, List.set_cons_zero, List.set_cons_succ]
  refine held_take (i := 17) (v := (.pointer (some ⟨b2, 0, none⟩))) 353 rfl rfl (by kernel_rfl) (by kernel_rfl) (by kernel_rfl) rfl (fun w' hw' => by obtain ⟨q0, q1, q2, q3⟩ := hw'; go_simp) S1 ?_
  simp only [Act.put, List.setIfInBounds_toArray, List.set_cons_zero, List.set_cons_succ]
  refine held_take (i := 18) (v := (.pointer (some ⟨b2, 0, none⟩))) 354 rfl rfl (by kernel_rfl) (by kernel_rfl) (by kernel_rfl) rfl (fun w' hw' => by obtain ⟨q0, q1, q2, q3⟩ := hw'; go_simp) S1 ?_
  simp only [Act.put, List.setIfInBounds_toArray, List.set_cons_zero, List.set_cons_succ]
  refine held_take (i := 19) (v := (.pointer (some ⟨b2, 0, none⟩))) 355 rfl rfl (by kernel_rfl) (by kernel_rfl) (by kernel_rfl) rfl (fun w' hw' => by obtain ⟨q0, q1, q2, q3⟩ := hw'; go_simp) S1 ?_
  simp only [Act.put, List.setIfInBounds_toArray, List.set_cons_zero, List.set_cons_succ]
  refine held_take (i := 20) (v := (.slice (adr g2 c2) s1.W.length c2)) 356 rfl rfl (by kernel_rfl) (by kernel_rfl) (by kernel_rfl) rfl (fun w' hw' => by obtain ⟨q0, q1, q2, q3⟩ := hw'; go_simp) S1 ?_
  simp only [Act.put, List.setIfInBounds_toArray, List.set_cons_zero, List.set_cons_succ]
  refine held_call (i := 21) (f := 20) (args := #[.slice (adr g1 c1) s1.W.length c1, .slice (adr g2 c2) s1.W.length c2]) 357 (by kernel_rfl) rfl rfl rfl (by go_simp) ?_
  refine (words_same _ _ s1.W HY1.out.t.ok.2 _ HY1.out.t.lies HY1.out.r.lies).mono ?_
  rintro e_ Y2 ⟨rfl, n2, hY2⟩
  have S2 : Y2.cell? ⟨b1, 0, none⟩ = some (.slice (adr g1 c1) s1.W.length c1) ∧ Y2.cell? ⟨b1, 1, none⟩ = some lv1 ∧ Y2.cell? ⟨b2, 0, none⟩ = some (.slice (adr g2 c2) s1.W.length c2) ∧ Y2.cell? ⟨b2, 1, none⟩ = some lv2 := by rw [hY2]; exact S1
  have HY2 : Hid (Du w b1 g1 c1 b2 g2 c2 Y2 s1 s1) := by rw [hY2]; exact hid (HY1.out.new ((Keeps.refl _ _).drewN n2))
  clear hY2
  refine ⟨_, rfl, S2, ?_⟩
  simp only [Act.put, List.setIfInBounds_toArray, List.set_cons_zero, List.set_cons_succ]
  refine held_take (i := 22) (v := (.bool true)) 358 rfl rfl (by kernel_rfl) (by kernel_rfl) (by kernel_rfl) rfl (fun w' hw' => by obtain ⟨q0, q1, q2, q3⟩ := hw'; go_simp) S2 ?_
  simp only [Act.put, List.setIfInBounds_toArray, List.set_cons_zero, List.set_cons_succ]
  refine held_take (i := 23) (v := (.bool true)) 6 rfl rfl (by kernel_rfl) (by kernel_rfl) (by kernel_rfl) rfl (fun w' hw' => by obtain ⟨q0, q1, q2, q3⟩ := hw'; go_simp) S2 ?_
  simp only [Act.put, List.setIfInBounds_toArray, List.set_cons_zero, List.set_cons_succ]
  refine held_end (by kernel_rfl) ?_ _
  clear S1 S2 HY1 HLO1 HLO2 hc1 hc2 hd1 hd2
  go_wp2_with fail
  go_ret
  exact ⟨rfl, HY2.out⟩
end Go.Proofs.Ytjgibkofenkehaa
