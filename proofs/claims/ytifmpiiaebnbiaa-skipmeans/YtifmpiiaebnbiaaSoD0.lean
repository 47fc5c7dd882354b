
/- The law's means, 0 (layer 22). No statement of the seat is proved here. -/
import Derived.Test.YtifmpiiaebnbiaaSoD
namespace Go.Proofs.Ytifmpiiaebnbiaa
open Go.RowKit

set_option maxRecDepth 100000 in
set_option maxHeartbeats 4000000 in
theorem means_0 {w : World} {b1 g1 c1 b2 g2 c2 : Nat} {s1 s2 : Wd} {N1 N2 : List Sn} {m : Nat} {K : List Int} {a : Option Addr} {c : Nat} (h : Me w b1 g1 c1 b2 g2 c2 w s1 s2 N1 N2 m K) (hs : s1.L = []) (_hs2 : s2.L = []) (hv : Sv w b1 g1 b2 g2 (.slice a K.length c) K) (hm : m ≤ 150) (hK : K.length ≤ 150) (kd lv ro at_ x y other : Int) (hx : isW x) (hk : kd ≠ 3 ∧ kd ≠ 4 ∧ kd ≠ 5 ∧ kd ≠ 6 ∧ kd ≠ 7) :
    Calls Try.prog 11 #[.pointer (some ⟨b1, 0, none⟩), .pointer (some ⟨b2, 0, none⟩), .slice a K.length c, .agg #[.int .i64 kd, .int .i64 lv, .int .u64 ro, .int .u64 at_, .int .u64 x, .int .u64 y], .int .i64 other] w fun e w' => e = .returned (.bool true) ∧ ∃ s1' s2' N1' N2', Me w b1 g1 c1 b2 g2 c2 w' s1' s2' N1' N2' (m + 1) (nxK kd K x) := by
  have hMA : Me w b1 g1 c1 b2 g2 c2 (w.alloc (stO kd lv ro at_ x y)) s1 s2 N1 N2 m K := ⟨h.d.new (keeps_new w _), h.h1, h.h2, h.k1, h.k2, h.l1, h.l2⟩
  have hb : (w.alloc (stO kd lv ro at_ x y)).heap[w.heap.size]? = some (stO kd lv ro at_ x y) := alloc_block w _
  have hn1 : ¬ own (w.alloc (stO kd lv ro at_ x y)) b1 g1 w.heap.size := fun q => by have := h.d.t.lto ((own_kept h.d.t.ltb (keeps_new w _) (fun _ _ f => f) _).1 q); omega
  have hn2 : ¬ own (w.alloc (stO kd lv ro at_ x y)) b2 g2 w.heap.size := fun q => by have := h.d.r.lto ((own_kept h.d.r.ltb (keeps_new w _) (fun _ _ f => f) _).1 q); omega
  have HB : Hid (∀ X s s', Dt (w.alloc (stO kd lv ro at_ x y)) b1 g1 c1 b2 g2 c2 X s s' → X.heap[w.heap.size]? = some (stO kd lv ro at_ x y)) := hid (fun X s s' d => (d.k.block _ (lt_of_block hb) (fun q => q.elim hn1 hn2)).trans hb)
  have HS := hid (Dt.start hMA.d.t hMA.d.r hMA.d.dj)
  have HV := hid (hv.kept h.d.t h.d.r (keeps_new w (stO kd lv ro at_ x y)))
  have HM := hid hMA
  have HPL := hid (place_any (.slice a K.length c) K x (by omega) (w.alloc (stO kd lv ro at_ x y)) HV.out.lies)
  obtain ⟨p, hp⟩ : ∃ p, plc K x = p := ⟨_, rfl⟩
  have hple : p ≤ K.length := by rw [← hp]; exact plc_le x K
  rw [hp] at HPL
  have st4 : (w.alloc (stO kd lv ro at_ x y)).cell? ⟨w.heap.size, 4, none⟩ = some (.int .u64 x) := by rw [cell_of_block hb]; rfl
  have st0 : (w.alloc (stO kd lv ro at_ x y)).cell? ⟨w.heap.size, 0, none⟩ = some (.int .i64 kd) := by rw [cell_of_block hb]; rfl
  have st1 : (w.alloc (stO kd lv ro at_ x y)).cell? ⟨w.heap.size, 1, none⟩ = some (.int .i64 lv) := by rw [cell_of_block hb]; rfl
  obtain ⟨th, hth⟩ : ∃ th, thr K x = th := ⟨_, rfl⟩
  have HT := hid hth
  have hthe : th = (decide (p < K.length) && (oat K p == x)) := by rw [← hth]; unfold thr; rw [hp]
  unfold stO at *
  obtain ⟨k3, k4, k5, k6, k7⟩ := hk
  have HNX : Hid (nxK kd K x = K) := hid (by unfold nxK; rw [if_neg k3, if_neg k4])
  have HSL := hid hs
  by_cases htt : thr K x = true
  · have HZ : Hid (∀ X, Dt w b1 g1 c1 b2 g2 c2 X s1 s2 → Me w b1 g1 c1 b2 g2 c2 X s1 s2 N1 N2 (m + 1) (nxK kd K x)) := hid (fun X d => ⟨d, h.h1.up (by omega), h.h2.up (by omega), by rw [HNX.out]; exact h.k1, by rw [HNX.out]; exact h.k2, h.l1, h.l2⟩)
    have htt2 : th = true := hth.symm.trans htt
    rw [htt2] at hthe
    have hq := hthe.symm
    rw [Bool.and_eq_true, decide_eq_true_eq, beq_iff_eq] at hq
    obtain ⟨hpl, hpx⟩ := hq
    have hpl' : (p : Int) < (K.length : Int) := by omega
    obtain ⟨a', c', e, hcell⟩ := HV.out.lies
    obtain ⟨rfl, _, rfl⟩ := Value.slice.inj e
    obtain ⟨ga, off, rfl, dk⟩ := hcell p hpl
    rw [hpx] at dk
    clear hcell e h hv hMA hb hn1 hn2 hs _hs2 hth hthe hp htt htt2 HT hpx
    go_enter Try.func11, Try.ntmps11
    go_wp2_with fail
    refine HPL.out.mono ?_
    rintro e_ w_ ⟨rfl, hw_⟩
    subst w_
    clear HPL
    go_wp2_with fail
    go_quiet (fail)
    go_wp2_with fail
    go_ret
    exact ⟨rfl, _, _, _, _, HZ.out _ (HM.out.d.trans (HS.out.new ((Keeps.refl _ _).drewN _)))⟩
  · have htf : thr K x = false := by simpa using htt
    obtain ⟨t1, t2, M1, e1, e2, v1, ok1, v2, q2, r2, hw8⟩ := back_set (x := x) h.h1 (by omega) (h.few (by omega)).1 hx (by rw [h.k1]; exact htf) lv
    have E1 : Hid (_ = _) := e1
    have E2 : Hid (_ = _) := e2
    have HZ : Hid (∀ X, Dt w b1 g1 c1 b2 g2 c2 X t2 s2 → Me w b1 g1 c1 b2 g2 c2 X t2 s2 M1 N2 (m + 1) (nxK kd K x)) := hid (fun X d => ⟨d, q2, h.h2.up (by omega), by rw [HNX.out, r2]; exact h.k1, by rw [HNX.out]; exact h.k2, by have q1 := v1.len; have q2' := v2.len; rw [hs] at q1; simp at q1; omega, h.l2⟩)
    have H700 : Hid (t1.L.length ≤ 700000) := hid (by have := v1.len; rw [hs] at this; simp at this; omega)
    have HW8 : Hid ((∀ i, i < 8 → oat t2.W (20 + i) = oat s1.W (20 + i)) ∧ s1.W.length = 2000 ∧ t2.W.length = 2000) := hid ⟨hw8, h.h1.sl.len, q2.sl.len⟩
    have hthf : th = false := hth.symm.trans htf
    have hc1 : 2000 ≤ c1 := by have := h.d.t.cap; have := h.h1.sl.len; omega
    have HCA : Hid (∀ X, WdAt 27 X b1 g1 c1 s1 → X.cell? ⟨b1, 0, none⟩ = some (.slice (some ⟨g1, 0, none⟩) 2000 c1) ∧ Lies X (.slice (some ⟨g1, 20, none⟩) 8 (c1 - 20)) ((s1.W.drop 20).take 8)) := hid (fun X hX => tx_words hX HW8.out.2.1 hc1)
    have HCB : Hid (∀ X, WdAt 27 X b1 g1 c1 t2 → X.cell? ⟨b1, 0, none⟩ = some (.slice (some ⟨g1, 0, none⟩) 2000 c1) ∧ Lies X (.slice (some ⟨g1, 20, none⟩) 8 (c1 - 20)) ((s1.W.drop 20).take 8)) := hid (fun X hX => by
      have q := tx_words hX HW8.out.2.2 hc1
      rw [words8_same HW8.out.2.1 HW8.out.2.2 HW8.out.1] at q
      exact q)
    have HRF : Hid (∀ q, ∃ v' w', (Builtin.append_ #[24, 24] 24 #[.slice none 0 0, .slice (some ⟨g1, 20, none⟩) 8 (c1 - 20)]).run Try.prog ((w.alloc (stO kd lv ro at_ x y)).drewN q) = .ok v' w' ∧ Wr w' (w.alloc (stO kd lv ro at_ x y)).heap.size v' ((s1.W.drop 20).take 8) ∧ Keeps (fun _ => False) (w.alloc (stO kd lv ro at_ x y)) w') := hid (fun q => by
      obtain ⟨v', w', r1, o1, k1⟩ := wr_app (w := (w.alloc (stO kd lv ro at_ x y)).drewN q) (base := (w.alloc (stO kd lv ro at_ x y)).heap.size) (v := .slice none 0 0) (L := []) (Wr.nil _ _) (HCA.out _ (HS.out.new ((Keeps.refl _ _).drewN q)).t).2 (by have := List.length_take_le 8 (s1.W.drop 20); simp only [List.length_nil]; omega) (Nat.le_refl _)
      exact ⟨v', w', r1, o1, keeps_base ((Keeps.refl _ _).drewN q) k1⟩)
    unfold stO at HRF
    have h28 : (28 : Int) ≤ (c1 : Int) := by omega
    clear hc1
    clear h hv hMA hb hn1 hn2 hs _hs2 e1 e2 v1 ok1 v2 q2 r2 hw8 htt htf hth HT
    subst hthf
    by_cases hpl : p < K.length
    · have hpl' : (p : Int) < (K.length : Int) := by omega
      obtain ⟨a', c', e, hcell⟩ := HV.out.lies
      obtain ⟨rfl, _, rfl⟩ := Value.slice.inj e
      obtain ⟨ga, off, rfl, dk⟩ := hcell p hpl
      have hpx : ¬ oat K p = x := fun e => by rw [e] at hthe; simp [hpl] at hthe
      have hbq : (oat K p == x) = false := by simp [hpx]
      clear hcell e hthe hp
      go_enter Try.func11, Try.ntmps11
      go_wp2_with fail
      refine HPL.out.mono ?_
      rintro e_ w_ ⟨rfl, hw_⟩
      subst w_
      clear HPL
      go_wp2_with fail
      go_quiet (fail)
      obtain ⟨v8, w8, hr8, hw8, hk8⟩ := HRF.out nq
      obtain ⟨a8, c8, hv8⟩ := hw8.form
      have hl8 : ((s1.W.drop 20).take 8).length = 8 := by rw [List.length_take, List.length_drop, HW8.out.2.1]; rfl
      rw [hl8] at hv8
      subst hv8
      have H8 := hid hr8
      have D8 := hid (HS.out.new hk8)
      have SV8 := hid (Sv.new hw8.lies ⟨a8, c8, by rw [hl8], by
        rcases id hw8.2 with ⟨e, e2⟩ | ⟨g', cap, cur, e, q1, q2, q3, _⟩
        · rw [hl8] at e2; omega
        · injection e with e1 e2 e3
          subst e3
          exact q3⟩ HS.out.t HS.out.r hk8 (fun a n c e _ => by
        cases e
        exact (own_block hw8 rfl).2))
      have y0 := (HCA.out _ (HS.out.new ((Keeps.refl _ _).drewN nq)).t).1
      have b8 := HB.out _ _ _ D8.out
      have f4 := cell_of_block b8 4
      have f1 := cell_of_block b8 1
      clear hr8 hw8 hk8 HRF b8 st4 st0 st1
      try clear dk
      go_wp2_with (at_builtin; refine wpList_append_run rfl _ _ 24 rfl rfl rfl H8.out ?_; clear H8)
      refine (ins_c E1 hx (by rw [HSL.out]; simp) D8.out.t).mono ?_
      rintro e_ w1 ⟨rfl, k1⟩
      have D1 := hid (D8.out.tx k1)
      have DD1 := hid ((Dt.start D8.out.t D8.out.r D8.out.dj).tx k1)
      have b9 := HB.out _ _ _ D1.out
      have f4 := cell_of_block b9 4
      clear k1 E1 f1 y0 b9
      go_wp2_with fail
      refine (rem_c E2 H700.out D1.out.t).mono ?_
      rintro e_ w2 ⟨rfl, k2⟩
      have D2 := hid (D1.out.tx k2)
      have SW := hid (SV8.out.on (DD1.out.tx k2)).lies
      have z0 := (HCB.out _ D2.out.t).1
      have SX := hid (HCB.out _ D2.out.t).2
      clear k2 E2 f4 D8 DD1 D1 SV8
      go_wp2_with (go_at_call 8; refine (num_any _ _).mono ?_; rintro e_ w_ ⟨rfl, hw_⟩; subst w_)
      refine (words_same _ _ _ (by rw [hl8]; omega) _ SW.out SX.out).mono ?_
      rintro e_ w3 ⟨rfl, m3, hw3⟩
      have HF := hid (HZ.out _ (HM.out.d.trans (D2.out.new (show Keeps (fun _ => False) w2 w3 by rw [hw3]; exact (Keeps.refl _ _).drewN _))))
      clear hw3 z0 D2 SW SX
      go_wp2_with fail
      go_ret
      exact ⟨rfl, _, _, _, _, HF.out⟩
    · have hpl' : ¬ (p : Int) < (K.length : Int) := by omega
      clear hthe hp
      go_enter Try.func11, Try.ntmps11
      go_wp2_with fail
      refine HPL.out.mono ?_
      rintro e_ w_ ⟨rfl, hw_⟩
      subst w_
      clear HPL
      go_wp2_with fail
      go_quiet (fail)
      obtain ⟨v8, w8, hr8, hw8, hk8⟩ := HRF.out nq
      obtain ⟨a8, c8, hv8⟩ := hw8.form
      have hl8 : ((s1.W.drop 20).take 8).length = 8 := by rw [List.length_take, List.length_drop, HW8.out.2.1]; rfl
      rw [hl8] at hv8
      subst hv8
      have H8 := hid hr8
      have D8 := hid (HS.out.new hk8)
      have SV8 := hid (Sv.new hw8.lies ⟨a8, c8, by rw [hl8], by
        rcases id hw8.2 with ⟨e, e2⟩ | ⟨g', cap, cur, e, q1, q2, q3, _⟩
        · rw [hl8] at e2; omega
        · injection e with e1 e2 e3
          subst e3
          exact q3⟩ HS.out.t HS.out.r hk8 (fun a n c e _ => by
        cases e
        exact (own_block hw8 rfl).2))
      have y0 := (HCA.out _ (HS.out.new ((Keeps.refl _ _).drewN nq)).t).1
      have b8 := HB.out _ _ _ D8.out
      have f4 := cell_of_block b8 4
      have f1 := cell_of_block b8 1
      clear hr8 hw8 hk8 HRF b8 st4 st0 st1
      try clear dk
      go_wp2_with (at_builtin; refine wpList_append_run rfl _ _ 24 rfl rfl rfl H8.out ?_; clear H8)
      refine (ins_c E1 hx (by rw [HSL.out]; simp) D8.out.t).mono ?_
      rintro e_ w1 ⟨rfl, k1⟩
      have D1 := hid (D8.out.tx k1)
      have DD1 := hid ((Dt.start D8.out.t D8.out.r D8.out.dj).tx k1)
      have b9 := HB.out _ _ _ D1.out
      have f4 := cell_of_block b9 4
      clear k1 E1 f1 y0 b9
      go_wp2_with fail
      refine (rem_c E2 H700.out D1.out.t).mono ?_
      rintro e_ w2 ⟨rfl, k2⟩
      have D2 := hid (D1.out.tx k2)
      have SW := hid (SV8.out.on (DD1.out.tx k2)).lies
      have z0 := (HCB.out _ D2.out.t).1
      have SX := hid (HCB.out _ D2.out.t).2
      clear k2 E2 f4 D8 DD1 D1 SV8
      go_wp2_with (go_at_call 8; refine (num_any _ _).mono ?_; rintro e_ w_ ⟨rfl, hw_⟩; subst w_)
      refine (words_same _ _ _ (by rw [hl8]; omega) _ SW.out SX.out).mono ?_
      rintro e_ w3 ⟨rfl, m3, hw3⟩
      have HF := hid (HZ.out _ (HM.out.d.trans (D2.out.new (show Keeps (fun _ => False) w2 w3 by rw [hw3]; exact (Keeps.refl _ _).drewN _))))
      clear hw3 z0 D2 SW SX
      go_wp2_with fail
      go_ret
      exact ⟨rfl, _, _, _, _, HF.out⟩
end Go.Proofs.Ytifmpiiaebnbiaa
