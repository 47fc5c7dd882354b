
/- The walk of follow (layer 22). No statement of the seat is proved here. -/
import Derived.Test.YtifmpiiaebnbiaaSkG
namespace Go.Proofs.Ytifmpiiaebnbiaa
open Go.RowKit

set_option maxHeartbeats 1000000 in
theorem follow_any (b g c pw n : Nat) (s : Wd) (a : Int) (hn : n ≤ 65536) (ha : isW a) (rms : Rm s 2) (w : World) (h : WdAt 27 w b g c s) (hpw : Lo w b g pw (wkO b n)) :
    Calls Try.prog 58 #[.pointer (some ⟨pw, 0, none⟩), .int .u64 a] w fun e w' => e = .returned (.tuple #[(s.fol n a).1.1.v, .int .i64 (s.fol n a).1.2]) ∧ Fw w b g c pw w' (s.fol n a).2.2 (s.fol n a).2.1 := by
  have mg := meth_get b
  have ng := nil_get b
  have oks : s.Ok := h.ok
  have hpl : pw < w.heap.size := hpw.lt
  have hpq : pw ≠ w.heap.size := Nat.ne_of_lt hpl
  have HH := hid (And.intro ((Fw.start h hpw).new (keeps_new w (lkO Lk.zero))) (Lo.new h (lkO Lk.zero)))
  clear h hpw
  obtain ⟨⟨⟨x, e⟩, s1⟩, eq1⟩ : ∃ r, s.get a = r := ⟨_, rfl⟩
  have hwx : isW x := get_isW eq1 oks
  have rms1 : Rm s1 1 := rms.get eq1
  by_cases hze : e = 0
  · subst hze
    by_cases hzx : x = 0
    · subst hzx
      have hs : s.fol n a = ((⟨a, 0, 0⟩, 0), n, s1) := by
        unfold Wd.fol
        simp [eq1]
      rw [hs]
      have HE1 : Hid (_ = _) := eq1
      clear hs eq1
      have hv := HH.out.1.pw.at_
      have v0 := wk_c0 hv
      have v1 := wk_c1 hv
      have vf := wk_fr hv 1
      clear hv
      unfold lkO Lk.zero at v0 v1 vf
      go_enter Try.func58, Try.ntmps58
      go_wp2_with fail
      refine (tget_r HE1 ha (rms.le (by omega)) HH.out.1.wd).mono ?_
      rintro e_ w1 ⟨rfl, h1⟩
      have HZ := hid (And.intro (HH.out.1.acc h1) (HH.out.2.hs h1))
      have hws : w.heap.size < w1.heap.size := HZ.out.2.lt
      clear HH HE1 h1 v0 v1 vf
      go_wp2_with fail
      refine (leads_any ⟨a, 0, 0⟩ _).mono ?_
      rintro e_ w2 ⟨rfl, k2⟩
      have HY : Hid (Fw w b g c pw w2 s1 n ∧ Lo w2 b g w.heap.size (lkO Lk.zero) ∧ Lo w2 b g w1.heap.size (lkO ⟨a, 0, 0⟩)) := by
        have hz := HZ.out
        have kn := keeps_new w1 (lkO ⟨a, 0, 0⟩)
        have hb := hz.1.wd.ltb
        exact hid ⟨(hz.1.new kn).new k2, (hz.2.after hb kn).after (Nat.lt_of_lt_of_le hb kn.size) k2, (Lo.new hz.1.wd _).after (Nat.lt_of_lt_of_le hb kn.size) k2⟩
      clear HZ k2
      unfold Lk.leads
      have hq := HY.out.2.1.at_
      have q0 := lk_c0 hq
      have q1 := lk_c1 hq
      have q2 := lk_c2 hq
      have qf0 := lk_fr hq 0
      have qf1 := lk_fr hq 1
      have qf2 := lk_fr hq 2
      clear hq
      have hp := HY.out.2.2.at_
      have p0 := lk_c0 hp
      have p1 := lk_c1 hp
      have p2 := lk_c2 hp
      have pf0 := lk_fr hp 0
      have pf1 := lk_fr hp 1
      have pf2 := lk_fr hp 2
      clear hp
      go_wp2_with fail
      refine bodyPost_ret (lk_ret rfl _ _ w.heap.size _ (HY.out.2.1.lk3 a 0 0).at_ rfl) rfl ?_
      exact ⟨rfl, HY.out.1.set3 HY.out.2.1 (Nat.le_refl _) hpq a 0 0⟩
    · have hzb : (x != 0) = true := by simpa using hzx
      by_cases hnf : n = 65536
      · subst hnf
        have hs : s.fol 65536 a = ((Lk.zero, 320), 65536, s1) := by
          unfold Wd.fol
          simp [eq1, hzx]
        rw [hs]
        have HE1 : Hid (_ = _) := eq1
        clear hs eq1
        have hv := HH.out.1.pw.at_
        have v0 := wk_c0 hv
        have v1 := wk_c1 hv
        have vf := wk_fr hv 1
        clear hv
        unfold lkO Lk.zero at v0 v1 vf
        go_enter Try.func58, Try.ntmps58
        go_wp2_with fail
        refine (tget_r HE1 ha (rms.le (by omega)) HH.out.1.wd).mono ?_
        rintro e_ w1 ⟨rfl, h1⟩
        have HZ := hid (And.intro (HH.out.1.acc h1) (HH.out.2.hs h1))
        have hws : w.heap.size < w1.heap.size := HZ.out.2.lt
        clear HH HE1 h1 v0 v1 vf
        go_wp2_with fail
        refine (leads_any ⟨a, x, 0⟩ _).mono ?_
        rintro e_ w2 ⟨rfl, k2⟩
        have HY : Hid (Fw w b g c pw w2 s1 65536 ∧ Lo w2 b g w.heap.size (lkO Lk.zero) ∧ Lo w2 b g w1.heap.size (lkO ⟨a, x, 0⟩)) := by
          have hz := HZ.out
          have kn := keeps_new w1 (lkO ⟨a, x, 0⟩)
          have hb := hz.1.wd.ltb
          exact hid ⟨(hz.1.new kn).new k2, (hz.2.after hb kn).after (Nat.lt_of_lt_of_le hb kn.size) k2, (Lo.new hz.1.wd _).after (Nat.lt_of_lt_of_le hb kn.size) k2⟩
        clear HZ k2
        unfold Lk.leads
        simp only [hzb]
        have hv := HY.out.1.pw.at_
        have v0 := wk_c0 hv
        have v1 := wk_c1 hv
        have vf := wk_fr hv 1
        clear hv
        have hq := HY.out.2.1.at_
        have q0 := lk_c0 hq
        have q1 := lk_c1 hq
        have q2 := lk_c2 hq
        have qf0 := lk_fr hq 0
        have qf1 := lk_fr hq 1
        have qf2 := lk_fr hq 2
        clear hq
        go_wp2_with fail
        refine bodyPost_ret (lk_ret rfl _ _ w.heap.size _ (HY.out.2.1.lk3 0 0 0).at_ rfl) rfl ?_
        exact ⟨rfl, HY.out.1.set3 HY.out.2.1 (Nat.le_refl _) hpq 0 0 0⟩
      · have hnf' : ¬ (n : Int) = 65536 := by omega
        obtain ⟨⟨⟨k, f⟩, s2⟩, eq2⟩ : ∃ r, s1.get (uw (x - 1)) = r := ⟨_, rfl⟩
        have HE2 : Hid (_ = _) := eq2
        have hwn : IntKind.i64.wrap ((n : Int) + 1) = (n : Int) + 1 := by rw [IntKind.wrap_i64]; omega
        by_cases hzf : f = 0
        · subst hzf
          have hs : s.fol n a = ((⟨a, x, k⟩, 0), n + 1, s2) := by
            unfold Wd.fol
            simp [eq1, eq2, hzx, hnf]
          rw [hs]
          clear eq2
          have HE1 : Hid (_ = _) := eq1
          clear hs eq1
          have hv := HH.out.1.pw.at_
          have v0 := wk_c0 hv
          have v1 := wk_c1 hv
          have vf := wk_fr hv 1
          clear hv
          unfold lkO Lk.zero at v0 v1 vf
          go_enter Try.func58, Try.ntmps58
          go_wp2_with fail
          refine (tget_r HE1 ha (rms.le (by omega)) HH.out.1.wd).mono ?_
          rintro e_ w1 ⟨rfl, h1⟩
          have HZ := hid (And.intro (HH.out.1.acc h1) (HH.out.2.hs h1))
          have hws : w.heap.size < w1.heap.size := HZ.out.2.lt
          clear HH HE1 h1 v0 v1 vf
          go_wp2_with fail
          refine (leads_any ⟨a, x, 0⟩ _).mono ?_
          rintro e_ w2 ⟨rfl, k2⟩
          have HY : Hid (Fw w b g c pw w2 s1 n ∧ Lo w2 b g w.heap.size (lkO Lk.zero) ∧ Lo w2 b g w1.heap.size (lkO ⟨a, x, 0⟩)) := by
            have hz := HZ.out
            have kn := keeps_new w1 (lkO ⟨a, x, 0⟩)
            have hb := hz.1.wd.ltb
            exact hid ⟨(hz.1.new kn).new k2, (hz.2.after hb kn).after (Nat.lt_of_lt_of_le hb kn.size) k2, (Lo.new hz.1.wd _).after (Nat.lt_of_lt_of_le hb kn.size) k2⟩
          clear HZ k2
          unfold Lk.leads
          simp only [hzb]
          have hv := HY.out.1.pw.at_
          have v0 := wk_c0 hv
          have v1 := wk_c1 hv
          have vf := wk_fr hv 1
          clear hv
          go_wp2_with fail
          have HN : Hid (Fw w b g c pw (w2.setCell ⟨pw, 1, none⟩ (.int .i64 ((n : Int) + 1))) s1 (n + 1) ∧ Lo (w2.setCell ⟨pw, 1, none⟩ (.int .i64 ((n : Int) + 1))) b g w.heap.size (lkO Lk.zero) ∧ Lo (w2.setCell ⟨pw, 1, none⟩ (.int .i64 ((n : Int) + 1))) b g w1.heap.size (lkO ⟨a, x, 0⟩)) := by
            have hy := HY.out
            exact hid ⟨hy.1.setN (n + 1) (by simp), hy.2.1.setOther _ hy.1.pw (by omega), hy.2.2.setOther _ hy.1.pw (by omega)⟩
          clear HY v0 v1 vf
          generalize w2.setCell ⟨pw, 1, none⟩ (.int .i64 ((n : Int) + 1)) = w3 at HN ⊢
          have v0 := wk_c0 HN.out.1.pw.at_
          have hp := HN.out.2.2.at_
          have p0 := lk_c0 hp
          have p1 := lk_c1 hp
          have p2 := lk_c2 hp
          have pf0 := lk_fr hp 0
          have pf1 := lk_fr hp 1
          have pf2 := lk_fr hp 2
          clear hp
          refine wp_held_end (S := fun W : World => W.cell? ⟨pw, 0, none⟩ = some (.iface 23 (.pointer (some ⟨b, 0, none⟩)))) 15 rfl hmxp ?_
          simp only [Array.replicate_succ, Array.replicate_zero, List.push_toArray, List.nil_append, List.cons_append]
          refine held_take (i := 0) (v := (.pointer (some ⟨pw, 0, none⟩))) 43 rfl rfl (by kernel_rfl) (by kernel_rfl) (by kernel_rfl) rfl (fun w' hw' => by obtain q_ := hw'; go_simp) v0 ?_
          simp only [Act.put, List.setIfInBounds_toArray, List.set_cons_zero, List.set_cons_succ]
          refine held_take (i := 1) (v := (.pointer (some ⟨pw, 0, none⟩))) 44 rfl rfl (by kernel_rfl) (by kernel_rfl) (by kernel_rfl) rfl (fun w' hw' => by obtain q_ := hw'; go_simp) v0 ?_
          simp only [Act.put, List.setIfInBounds_toArray, List.set_cons_zero, List.set_cons_succ]
          refine held_take (i := 2) (v := (.pointer (some ⟨pw, 0, none⟩))) 45 rfl rfl (by kernel_rfl) (by kernel_rfl) (by kernel_rfl) rfl (fun w' hw' => by obtain q_ := hw'; go_simp) v0 ?_
          simp only [Act.put, List.setIfInBounds_toArray, List.set_cons_zero, List.set_cons_succ]
          refine held_take (i := 3) (v := (.iface 23 (.pointer (some ⟨b, 0, none⟩)))) 46 rfl rfl (by kernel_rfl) (by kernel_rfl) (by kernel_rfl) rfl (fun w' hw' => by obtain q_ := hw'; go_simp) v0 ?_
          simp only [Act.put, List.setIfInBounds_toArray, List.set_cons_zero, List.set_cons_succ]
          refine held_take (i := 6) (v := (.iface 23 (.pointer (some ⟨b, 0, none⟩)))) 49 rfl rfl (by kernel_rfl) (by kernel_rfl) (by kernel_rfl) rfl (fun w' hw' => by obtain q_ := hw'; go_simp) v0 ?_
          simp only [Act.put, List.setIfInBounds_toArray, List.set_cons_zero, List.set_cons_succ]
          refine held_take (i := 7) (v := (.iface 23 (.pointer (some ⟨b, 0, none⟩)))) 50 rfl rfl (by kernel_rfl) (by kernel_rfl) (by kernel_rfl) rfl (fun w' hw' => by obtain q_ := hw'; go_simp) v0 ?_
          simp only [Act.put, List.setIfInBounds_toArray, List.set_cons_zero, List.set_cons_succ]
          refine held_val (i := 4) (v := (.agg #[.int .u64 a, .int .u64 x, .int .u64 0])) (w' := w3.drew) (some 47) (by kernel_rfl) rfl rfl rfl (by go_simp) v0 ?_
          simp only [Act.put, List.setIfInBounds_toArray, List.set_cons_zero, List.set_cons_succ]
          refine held_call (i := 5) (f := 52) (args := #[.agg #[.int .u64 a, .int .u64 x, .int .u64 0]]) 48 (by kernel_rfl) rfl rfl rfl (by go_simp) ?_
          refine (node_any ⟨a, x, 0⟩ _).mono ?_
          rintro e_ w4 ⟨rfl, k4⟩
          have HX : Hid (Fw w b g c pw w4 s1 (n + 1) ∧ Lo w4 b g w.heap.size (lkO Lk.zero) ∧ Lo w4 b g w1.heap.size (lkO ⟨a, x, 0⟩)) := by
            have hy := HN.out
            have hb : b < w3.drew.heap.size := hy.1.wd.ltb
            exact hid ⟨(hy.1.like (X' := w3.drew) rfl rfl rfl rfl).new k4, (hy.2.1.like (X := w3.drew) rfl).after hb k4, (hy.2.2.like (X := w3.drew) rfl).after hb k4⟩
          clear HN k4 p0 p1 p2 pf0 pf1 pf2 v0
          have v0 := wk_c0 HX.out.1.pw.at_
          refine ⟨_, rfl, v0, ?_⟩
          simp only [Act.put, List.setIfInBounds_toArray, List.set_cons_zero, List.set_cons_succ]
          refine held_call (i := 8) (f := 83) (args := #[.pointer (some ⟨b, 0, none⟩), .int .u64 (uw (x - 1))]) 51 (by kernel_rfl) rfl rfl rfl (by go_simp; rfl) ?_
          refine (tget_r HE2 (uw_isW _) rms1 HX.out.1.wd).mono ?_
          rintro e_ w5 ⟨rfl, h5⟩
          have HV : Hid (Fw w b g c pw w5 s2 (n + 1) ∧ Lo w5 b g w.heap.size (lkO Lk.zero) ∧ Lo w5 b g w1.heap.size (lkO ⟨a, x, 0⟩)) := hid ⟨HX.out.1.acc h5, HX.out.2.1.hs h5, HX.out.2.2.hs h5⟩
          clear HX h5 v0
          have v0 := wk_c0 HV.out.1.pw.at_
          refine ⟨_, rfl, v0, ?_⟩
          have hp := HV.out.2.2.at_
          have p0 := lk_c0 hp
          have p1 := lk_c1 hp
          have p2 := lk_c2 hp
          have pf0 := lk_fr hp 0
          have pf1 := lk_fr hp 1
          have pf2 := lk_fr hp 2
          clear hp
          simp only [Act.put, List.setIfInBounds_toArray, List.set_cons_zero, List.set_cons_succ]
          refine held_take (i := 9) (v := (.tuple #[.int .u64 k, .int .i64 0])) 42 rfl rfl (by kernel_rfl) (by kernel_rfl) (by kernel_rfl) rfl (fun w' hw' => by obtain q_ := hw'; go_simp) v0 ?_
          simp only [Act.put, List.setIfInBounds_toArray, List.set_cons_zero, List.set_cons_succ]
          refine held_take (i := 10) (v := (.int .u64 k)) 52 rfl rfl (by kernel_rfl) (by kernel_rfl) (by kernel_rfl) rfl (fun w' hw' => by obtain q_ := hw'; go_simp) v0 ?_
          simp only [Act.put, List.setIfInBounds_toArray, List.set_cons_zero, List.set_cons_succ]
          refine held_take (i := 11) (v := (.int .i64 0)) 53 rfl rfl (by kernel_rfl) (by kernel_rfl) (by kernel_rfl) rfl (fun w' hw' => by obtain q_ := hw'; go_simp) v0 ?_
          simp only [Act.put, List.setIfInBounds_toArray, List.set_cons_zero, List.set_cons_succ]
          refine held_take (i := 12) (v := (.pointer (some ⟨w1.heap.size, 2, none⟩))) 54 rfl rfl (by kernel_rfl) (by kernel_rfl) (by kernel_rfl) rfl (fun w' hw' => by obtain q_ := hw'; go_simp) v0 ?_
          simp only [Act.put, List.setIfInBounds_toArray, List.set_cons_zero, List.set_cons_succ]
          have HU : Hid (Fw w b g c pw (w5.setCell ⟨w1.heap.size, 2, none⟩ (.int .u64 k)) s2 (n + 1) ∧ Lo (w5.setCell ⟨w1.heap.size, 2, none⟩ (.int .u64 k)) b g w.heap.size (lkO Lk.zero) ∧ Lo (w5.setCell ⟨w1.heap.size, 2, none⟩ (.int .u64 k)) b g w1.heap.size (lkO ⟨a, x, k⟩)) := by
            have hv := HV.out
            exact hid ⟨hv.1.set hv.2.2 (by omega) (by omega) 2 _, hv.2.1.setOther _ hv.2.2 (by omega), hv.2.2.lkK k⟩
          have v0' := wk_c0 HU.out.1.pw.at_
          refine held_none (i := 13) (w' := w5.setCell ⟨w1.heap.size, 2, none⟩ (.int .u64 k)) (by kernel_rfl) rfl rfl rfl (by go_simp) v0' ?_
          simp only [List.setIfInBounds_toArray, List.set_cons_zero, List.set_cons_succ]
          clear v0 HV
          have v0 := v0'
          clear v0'
          refine held_take (i := 14) (v := (.int .i64 0)) 7 rfl rfl (by kernel_rfl) (by kernel_rfl) (by kernel_rfl) rfl (fun w' hw' => by obtain q_ := hw'; go_simp) v0 ?_
          simp only [Act.put, List.setIfInBounds_toArray, List.set_cons_zero, List.set_cons_succ]
          clear p0 p1 p2 pf0 pf1 pf2
          generalize w5.setCell ⟨w1.heap.size, 2, none⟩ (.int .u64 k) = w6 at HU v0 ⊢
          refine held_end (by kernel_rfl) ?_ _
          clear v0
          have hq := HU.out.2.1.at_
          have q0 := lk_c0 hq
          have q1 := lk_c1 hq
          have q2 := lk_c2 hq
          have qf0 := lk_fr hq 0
          have qf1 := lk_fr hq 1
          have qf2 := lk_fr hq 2
          clear hq
          have hp := HU.out.2.2.at_
          have p0 := lk_c0 hp
          have p1 := lk_c1 hp
          have p2 := lk_c2 hp
          have pf0 := lk_fr hp 0
          have pf1 := lk_fr hp 1
          have pf2 := lk_fr hp 2
          clear hp
          go_wp2_with fail
          refine bodyPost_ret (lk_ret rfl _ _ w.heap.size _ (HU.out.2.1.lk3 a x k).at_ rfl) rfl ?_
          exact ⟨rfl, HU.out.1.set3 HU.out.2.1 (Nat.le_refl _) hpq a x k⟩
        · skip
          have hs : s.fol n a = ((Lk.zero, f), n + 1, s2) := by
            unfold Wd.fol
            simp [eq1, eq2, hzx, hnf, hzf]
          rw [hs]
          clear eq2
          have HE1 : Hid (_ = _) := eq1
          clear hs eq1
          have hv := HH.out.1.pw.at_
          have v0 := wk_c0 hv
          have v1 := wk_c1 hv
          have vf := wk_fr hv 1
          clear hv
          unfold lkO Lk.zero at v0 v1 vf
          go_enter Try.func58, Try.ntmps58
          go_wp2_with fail
          refine (tget_r HE1 ha (rms.le (by omega)) HH.out.1.wd).mono ?_
          rintro e_ w1 ⟨rfl, h1⟩
          have HZ := hid (And.intro (HH.out.1.acc h1) (HH.out.2.hs h1))
          have hws : w.heap.size < w1.heap.size := HZ.out.2.lt
          clear HH HE1 h1 v0 v1 vf
          go_wp2_with fail
          refine (leads_any ⟨a, x, 0⟩ _).mono ?_
          rintro e_ w2 ⟨rfl, k2⟩
          have HY : Hid (Fw w b g c pw w2 s1 n ∧ Lo w2 b g w.heap.size (lkO Lk.zero) ∧ Lo w2 b g w1.heap.size (lkO ⟨a, x, 0⟩)) := by
            have hz := HZ.out
            have kn := keeps_new w1 (lkO ⟨a, x, 0⟩)
            have hb := hz.1.wd.ltb
            exact hid ⟨(hz.1.new kn).new k2, (hz.2.after hb kn).after (Nat.lt_of_lt_of_le hb kn.size) k2, (Lo.new hz.1.wd _).after (Nat.lt_of_lt_of_le hb kn.size) k2⟩
          clear HZ k2
          unfold Lk.leads
          simp only [hzb]
          have hv := HY.out.1.pw.at_
          have v0 := wk_c0 hv
          have v1 := wk_c1 hv
          have vf := wk_fr hv 1
          clear hv
          go_wp2_with fail
          have HN : Hid (Fw w b g c pw (w2.setCell ⟨pw, 1, none⟩ (.int .i64 ((n : Int) + 1))) s1 (n + 1) ∧ Lo (w2.setCell ⟨pw, 1, none⟩ (.int .i64 ((n : Int) + 1))) b g w.heap.size (lkO Lk.zero) ∧ Lo (w2.setCell ⟨pw, 1, none⟩ (.int .i64 ((n : Int) + 1))) b g w1.heap.size (lkO ⟨a, x, 0⟩)) := by
            have hy := HY.out
            exact hid ⟨hy.1.setN (n + 1) (by simp), hy.2.1.setOther _ hy.1.pw (by omega), hy.2.2.setOther _ hy.1.pw (by omega)⟩
          clear HY v0 v1 vf
          generalize w2.setCell ⟨pw, 1, none⟩ (.int .i64 ((n : Int) + 1)) = w3 at HN ⊢
          have v0 := wk_c0 HN.out.1.pw.at_
          have hp := HN.out.2.2.at_
          have p0 := lk_c0 hp
          have p1 := lk_c1 hp
          have p2 := lk_c2 hp
          have pf0 := lk_fr hp 0
          have pf1 := lk_fr hp 1
          have pf2 := lk_fr hp 2
          clear hp
          refine wp_held_end (S := fun W : World => W.cell? ⟨pw, 0, none⟩ = some (.iface 23 (.pointer (some ⟨b, 0, none⟩)))) 15 rfl hmxp ?_
          simp only [Array.replicate_succ, Array.replicate_zero, List.push_toArray, List.nil_append, List.cons_append]
          refine held_take (i := 0) (v := (.pointer (some ⟨pw, 0, none⟩))) 43 rfl rfl (by kernel_rfl) (by kernel_rfl) (by kernel_rfl) rfl (fun w' hw' => by obtain q_ := hw'; go_simp) v0 ?_
          simp only [Act.put, List.setIfInBounds_toArray, List.set_cons_zero, List.set_cons_succ]
          refine held_take (i := 1) (v := (.pointer (some ⟨pw, 0, none⟩))) 44 rfl rfl (by kernel_rfl) (by kernel_rfl) (by kernel_rfl) rfl (fun w' hw' => by obtain q_ := hw'; go_simp) v0 ?_
          simp only [Act.put, List.setIfInBounds_toArray, List.set_cons_zero, List.set_cons_succ]
          refine held_take (i := 2) (v := (.pointer (some ⟨pw, 0, none⟩))) 45 rfl rfl (by kernel_rfl) (by kernel_rfl) (by kernel_rfl) rfl (fun w' hw' => by obtain q_ := hw'; go_simp) v0 ?_
          simp only [Act.put, List.setIfInBounds_toArray, List.set_cons_zero, List.set_cons_succ]
          refine held_take (i := 3) (v := (.iface 23 (.pointer (some ⟨b, 0, none⟩)))) 46 rfl rfl (by kernel_rfl) (by kernel_rfl) (by kernel_rfl) rfl (fun w' hw' => by obtain q_ := hw'; go_simp) v0 ?_
          simp only [Act.put, List.setIfInBounds_toArray, List.set_cons_zero, List.set_cons_succ]
          refine held_take (i := 6) (v := (.iface 23 (.pointer (some ⟨b, 0, none⟩)))) 49 rfl rfl (by kernel_rfl) (by kernel_rfl) (by kernel_rfl) rfl (fun w' hw' => by obtain q_ := hw'; go_simp) v0 ?_
          simp only [Act.put, List.setIfInBounds_toArray, List.set_cons_zero, List.set_cons_succ]
          refine held_take (i := 7) (v := (.iface 23 (.pointer (some ⟨b, 0, none⟩)))) 50 rfl rfl (by kernel_rfl) (by kernel_rfl) (by kernel_rfl) rfl (fun w' hw' => by obtain q_ := hw'; go_simp) v0 ?_
          simp only [Act.put, List.setIfInBounds_toArray, List.set_cons_zero, List.set_cons_succ]
          refine held_val (i := 4) (v := (.agg #[.int .u64 a, .int .u64 x, .int .u64 0])) (w' := w3.drew) (some 47) (by kernel_rfl) rfl rfl rfl (by go_simp) v0 ?_
          simp only [Act.put, List.setIfInBounds_toArray, List.set_cons_zero, List.set_cons_succ]
          refine held_call (i := 5) (f := 52) (args := #[.agg #[.int .u64 a, .int .u64 x, .int .u64 0]]) 48 (by kernel_rfl) rfl rfl rfl (by go_simp) ?_
          refine (node_any ⟨a, x, 0⟩ _).mono ?_
          rintro e_ w4 ⟨rfl, k4⟩
          have HX : Hid (Fw w b g c pw w4 s1 (n + 1) ∧ Lo w4 b g w.heap.size (lkO Lk.zero) ∧ Lo w4 b g w1.heap.size (lkO ⟨a, x, 0⟩)) := by
            have hy := HN.out
            have hb : b < w3.drew.heap.size := hy.1.wd.ltb
            exact hid ⟨(hy.1.like (X' := w3.drew) rfl rfl rfl rfl).new k4, (hy.2.1.like (X := w3.drew) rfl).after hb k4, (hy.2.2.like (X := w3.drew) rfl).after hb k4⟩
          clear HN k4 p0 p1 p2 pf0 pf1 pf2 v0
          have v0 := wk_c0 HX.out.1.pw.at_
          refine ⟨_, rfl, v0, ?_⟩
          simp only [Act.put, List.setIfInBounds_toArray, List.set_cons_zero, List.set_cons_succ]
          refine held_call (i := 8) (f := 83) (args := #[.pointer (some ⟨b, 0, none⟩), .int .u64 (uw (x - 1))]) 51 (by kernel_rfl) rfl rfl rfl (by go_simp; rfl) ?_
          refine (tget_r HE2 (uw_isW _) rms1 HX.out.1.wd).mono ?_
          rintro e_ w5 ⟨rfl, h5⟩
          have HV : Hid (Fw w b g c pw w5 s2 (n + 1) ∧ Lo w5 b g w.heap.size (lkO Lk.zero) ∧ Lo w5 b g w1.heap.size (lkO ⟨a, x, 0⟩)) := hid ⟨HX.out.1.acc h5, HX.out.2.1.hs h5, HX.out.2.2.hs h5⟩
          clear HX h5 v0
          have v0 := wk_c0 HV.out.1.pw.at_
          refine ⟨_, rfl, v0, ?_⟩
          have hp := HV.out.2.2.at_
          have p0 := lk_c0 hp
          have p1 := lk_c1 hp
          have p2 := lk_c2 hp
          have pf0 := lk_fr hp 0
          have pf1 := lk_fr hp 1
          have pf2 := lk_fr hp 2
          clear hp
          simp only [Act.put, List.setIfInBounds_toArray, List.set_cons_zero, List.set_cons_succ]
          refine held_take (i := 9) (v := (.tuple #[.int .u64 k, .int .i64 f])) 42 rfl rfl (by kernel_rfl) (by kernel_rfl) (by kernel_rfl) rfl (fun w' hw' => by obtain q_ := hw'; go_simp) v0 ?_
          simp only [Act.put, List.setIfInBounds_toArray, List.set_cons_zero, List.set_cons_succ]
          refine held_take (i := 10) (v := (.int .u64 k)) 52 rfl rfl (by kernel_rfl) (by kernel_rfl) (by kernel_rfl) rfl (fun w' hw' => by obtain q_ := hw'; go_simp) v0 ?_
          simp only [Act.put, List.setIfInBounds_toArray, List.set_cons_zero, List.set_cons_succ]
          refine held_take (i := 11) (v := (.int .i64 f)) 53 rfl rfl (by kernel_rfl) (by kernel_rfl) (by kernel_rfl) rfl (fun w' hw' => by obtain q_ := hw'; go_simp) v0 ?_
          simp only [Act.put, List.setIfInBounds_toArray, List.set_cons_zero, List.set_cons_succ]
          refine held_take (i := 12) (v := (.pointer (some ⟨w1.heap.size, 2, none⟩))) 54 rfl rfl (by kernel_rfl) (by kernel_rfl) (by kernel_rfl) rfl (fun w' hw' => by obtain q_ := hw'; go_simp) v0 ?_
          simp only [Act.put, List.setIfInBounds_toArray, List.set_cons_zero, List.set_cons_succ]
          have HU : Hid (Fw w b g c pw (w5.setCell ⟨w1.heap.size, 2, none⟩ (.int .u64 k)) s2 (n + 1) ∧ Lo (w5.setCell ⟨w1.heap.size, 2, none⟩ (.int .u64 k)) b g w.heap.size (lkO Lk.zero) ∧ Lo (w5.setCell ⟨w1.heap.size, 2, none⟩ (.int .u64 k)) b g w1.heap.size (lkO ⟨a, x, k⟩)) := by
            have hv := HV.out
            exact hid ⟨hv.1.set hv.2.2 (by omega) (by omega) 2 _, hv.2.1.setOther _ hv.2.2 (by omega), hv.2.2.lkK k⟩
          have v0' := wk_c0 HU.out.1.pw.at_
          refine held_none (i := 13) (w' := w5.setCell ⟨w1.heap.size, 2, none⟩ (.int .u64 k)) (by kernel_rfl) rfl rfl rfl (by go_simp) v0' ?_
          simp only [List.setIfInBounds_toArray, List.set_cons_zero, List.set_cons_succ]
          clear v0 HV
          have v0 := v0'
          clear v0'
          refine held_take (i := 14) (v := (.int .i64 f)) 7 rfl rfl (by kernel_rfl) (by kernel_rfl) (by kernel_rfl) rfl (fun w' hw' => by obtain q_ := hw'; go_simp) v0 ?_
          simp only [Act.put, List.setIfInBounds_toArray, List.set_cons_zero, List.set_cons_succ]
          clear p0 p1 p2 pf0 pf1 pf2
          generalize w5.setCell ⟨w1.heap.size, 2, none⟩ (.int .u64 k) = w6 at HU v0 ⊢
          refine held_end (by kernel_rfl) ?_ _
          clear v0
          have hq := HU.out.2.1.at_
          have q0 := lk_c0 hq
          have q1 := lk_c1 hq
          have q2 := lk_c2 hq
          have qf0 := lk_fr hq 0
          have qf1 := lk_fr hq 1
          have qf2 := lk_fr hq 2
          clear hq
          go_wp2_with fail
          refine bodyPost_ret (lk_ret rfl _ _ w.heap.size _ (HU.out.2.1.lk3 0 0 0).at_ rfl) rfl ?_
          exact ⟨rfl, HU.out.1.set3 HU.out.2.1 (Nat.le_refl _) hpq 0 0 0⟩
  · skip
    have hs : s.fol n a = ((Lk.zero, e), n, s1) := by
      unfold Wd.fol
      simp [eq1, hze]
    rw [hs]
    have HE1 : Hid (_ = _) := eq1
    clear hs eq1
    have hv := HH.out.1.pw.at_
    have v0 := wk_c0 hv
    have v1 := wk_c1 hv
    have vf := wk_fr hv 1
    clear hv
    unfold lkO Lk.zero at v0 v1 vf
    go_enter Try.func58, Try.ntmps58
    go_wp2_with fail
    refine (tget_r HE1 ha (rms.le (by omega)) HH.out.1.wd).mono ?_
    rintro e_ w1 ⟨rfl, h1⟩
    have HZ := hid (And.intro (HH.out.1.acc h1) (HH.out.2.hs h1))
    have hws : w.heap.size < w1.heap.size := HZ.out.2.lt
    clear HH HE1 h1 v0 v1 vf
    have hq := HZ.out.2.at_
    have q0 := lk_c0 hq
    have q1 := lk_c1 hq
    have q2 := lk_c2 hq
    have qf0 := lk_fr hq 0
    have qf1 := lk_fr hq 1
    have qf2 := lk_fr hq 2
    clear hq
    go_wp2_with fail
    refine bodyPost_ret (lk_ret rfl _ _ w.heap.size _ (HZ.out.2.lk3 0 0 0).at_ rfl) rfl ?_
    exact ⟨rfl, HZ.out.1.set3 HZ.out.2 (Nat.le_refl _) hpq 0 0 0⟩
theorem follow_r {b g c pw n n1 : Nat} {s : Wd} {a e : Int} {t : Lk} {s1 : Wd} (heq : Hid (s.fol n a = ((t, e), n1, s1))) (hn : n ≤ 65536) (ha : isW a) (rms : Rm s 2) {w : World} (h : WdAt 27 w b g c s) (hpw : Lo w b g pw (wkO b n)) :
    Calls Try.prog 58 #[.pointer (some ⟨pw, 0, none⟩), .int .u64 a] w fun r w' => r = .returned (.tuple #[t.v, .int .i64 e]) ∧ Fw w b g c pw w' s1 n1 := by
  have hq := follow_any b g c pw n s a hn ha rms w h hpw
  rw [heq.out] at hq
  exact hq
end Go.Proofs.Ytifmpiiaebnbiaa
