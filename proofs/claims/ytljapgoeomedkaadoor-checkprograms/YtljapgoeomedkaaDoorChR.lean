
/- The law CheckMore. No statement of the seat is proved here. -/
import Derived.Test.YtljapgoeomedkaaDoorChM
namespace Go.Proofs.YtljapgoeomedkaaDoor
open Go.RowKit Go.Shelf

theorem mds_num {w : World} {g n m cap : Nat} {f : Nat → Int} (hb : w.heap[g]? = some (.cells (mds n f) 70 (0, 0))) (hm : m ≤ n) : NumAt w (.slice (some ⟨g, 0, none⟩) m cap) ((List.range m).map f) :=
  num_block hb (by simp) (fun k hk => by
    simp at hk
    rw [mds_at (by omega)]
    simp) cap

set_option maxRecDepth 100000 in
set_option maxHeartbeats 20000000 in
theorem more_law (v : Value) (p : List I5) (w : World) (h : InsAt w v p) (hG : Gb w) : Calls Tryd.prog 7 #[v] w fun e w' => e = .returned (.bool true) ∧ Keeps (fun _ => False) w w' := by
  have HH : Hid (∀ X, Keeps (fun _ => False) w X → InsAt X v p ∧ Gb X) := fun X k => ⟨h.keeps k, hG.keeps k⟩
  have KN := known_any w hG
  have NA := num_any
  have HWF : Hid (∀ i ∈ p, i.wf) := h.wf
  obtain ⟨⟨av, cap, rfl, -⟩, -, -⟩ := h
  clear hG
  go_enter Tryd.func7, Tryd.ntmps7
  go_wp2_with fail
  refine KN.mono ?_
  rintro e w1 ⟨rfl, k1⟩
  have MA := modes_any _ p w1 (HH.out w1 k1).1 (HH.out w1 k1).2
  clear KN
  go_wp2_with fail
  refine MA.mono ?_
  rintro e w2 ⟨mv, rfl, k2, hok, hno⟩
  have K2 := k1.trans k2
  clear MA k1 k2
  by_cases hv : (verd p).2 = 0
  · obtain ⟨g, rfl, hg, hB⟩ := hok hv
    have HV : Hid ((verd p).2 = 0) := hv
    have HB : Hid (∀ X, Keeps (fun _ => False) w2 X → X.heap[g]? = some (.cells (mds p.length (modeN p)) 70 (0, 0))) := fun X k => (k.block _ (lt_of_block hB) (fun f => f)).trans hB
    obtain ⟨hp0, hpl⟩ := verd_ok_len hv
    have lg := lt_of_block hB
    rw [hv]
    obtain ⟨v1, w4, r1, i1, g1⟩ := (Irs.nil w2).app _ p (HH.out w2 K2).1 (by simp; omega)
    rw [List.nil_append] at i1
    have k4 := Irs.kept g1 (Keeps.refl (fun _ => False) w2) (Irs.nil w2)
    obtain ⟨v2, w5, r2, i2, g2⟩ := i1.push2 iH wf_iH (by omega)
    have k5 := Irs.kept g2 k4 i1
    obtain ⟨gm, cm, rfl, hgm, hcm, hM⟩ := InsB.of_own i2 (by simp)
    rw [List.length_append, List.length_singleton] at hcm r2
    have HA : Hid (_ = _) := r1
    have HC : Hid (_ = _) := r2
    have K5 := K2.trans k5
    have wfm : ∀ i ∈ p ++ [iH], i.wf := fun i hi => by
      rcases List.mem_append.1 hi with hi | hi
      · exact HWF.out i hi
      · simp at hi; rw [hi]; exact wf_iH
    have IM := hM.insAt cm wfm (by simp; omega)
    rw [List.length_append, List.length_singleton] at IM
    have MB := modes_any _ (p ++ [iH]) w5 IM (HH.out w5 K5).2
    have hcm1 : (p.length : Int) ≤ cm := by omega
    clear hok hno hB hv hg r1 r2 i1 g1 i2 g2 k4 IM wfm
    go_wp2_with fail
    refine (NA _ _).mono ?_
    rintro e w3 ⟨rfl, rfl⟩
    go_wp2_with (at_builtin; first | (refine wpList_append_run rfl _ _ 22 rfl rfl rfl HA.out ?_; clear HA) | (refine wpList_append_run rfl _ _ 22 rfl rfl rfl HC.out ?_; clear HC))
    refine MB.mono ?_
    rintro e w6 ⟨ma, rfl, k6, hok, hno⟩
    have K6 := K5.trans k6
    have k36 := k5.trans k6
    have M6 := hM.keeps k6 (fun f => f)
    by_cases h256 : p.length + 1 ≤ 256
    · obtain ⟨hR, hvm⟩ := more_verd HV.out h256
      obtain ⟨ga, rfl, hga, hA6⟩ := hok (by rw [hvm])
      rw [hvm]
      rw [List.length_append, List.length_singleton] at hA6 ⊢
      have hl1 : ¬ (p.length : Int) + 1 > 256 := by omega
      have cA := cell_of_block hA6 p.length
      have hm0 : modeN (p ++ [iH]) p.length = 0 := by
        unfold modeN
        rw [hR, reachB_no.2 (fun hr => Nat.lt_irrefl _ (reach_lt hp0 hr)), reachB_no.2 (fun hr => Nat.lt_irrefl _ (reach_lt hp0 hr))]
        rfl
      rw [mds_at (by omega), hm0] at cA
      have N1 := mds_num (m := p.length) (cap := p.length + 1) hA6 (by omega)
      have N2 := mds_num (m := p.length) (cap := p.length) (HB.out w6 k36) (Nat.le_refl _)
      rw [show (List.range p.length).map (modeN (p ++ [iH])) = (List.range p.length).map (modeN p) from List.map_congr_left fun k _ => modeN_congr hR k] at N1
      have SM := samemodes_any _ _ _ (by simp; omega) w6 N1 N2
      have hpi : (p.length : Int) < (p.length : Int) + 1 := by omega
      have hpi2 : (p.length : Int) ≤ (p.length : Int) + 1 := by omega
      have HD : Hid (Keeps (fun _ => False) w3 w6 ∧ Keeps (fun _ => False) w w6 ∧ InsB w6 gm (p ++ [iH]) ∧ w3.heap.size ≤ gm) := ⟨k36, K6, M6, hgm⟩
      clear hok hno MB hA6 N1 N2 K6 k36 M6 hgm hM k5 K5 k6 hm0 hga
      go_wp2_with fail
      refine (NA _ _).mono ?_
      rintro e w7 ⟨rfl, rfl⟩
      go_wp2_with fail
      refine SM.mono ?_
      rintro e w8 ⟨rfl, k8⟩
      obtain ⟨q1, q2, q3, q4⟩ := HD.out
      have q1' := q1.trans k8
      have q2' := q2.trans k8
      have q3' := q3.keeps k8 (fun f => f)
      have hgw : w.heap.size ≤ gm := Nat.le_trans K2.size q4
      clear SM HD cA q1 q2 q3
      go_wp2_with fail
      go_loopw [8] (fun m wr => ∃ k : Nat, m = .int .i64 k ∧ k ≤ p.length ∧ Hid (Keeps (fun _ => False) w3 wr ∧ Keeps (fun _ => False) w wr ∧ InsB wr gm (repL p k ++ [iH]))) (fun m _ => p.length - (intOf m).toNat)
      case atStart => exact ⟨0, rfl, Nat.zero_le _, ⟨q1', q2', by rw [repL_zero]; exact q3'⟩⟩
      case round =>
        clear q1' q2' q3' k8
        obtain ⟨k, rfl, hk, hh⟩ := hrel
        obtain ⟨y1, y2, y3⟩ := hh.out
        by_cases hlt : k < p.length
        · have hki : (k : Int) < p.length := by omega
          have hkm : (k : Int) < (p.length : Int) + 1 := by omega
          have cM := cell_of_block (HB.out wr y1) k
          rw [mds_at hlt] at cM
          have hst := repL_step hlt
          by_cases hm : modeN p k = 0
          · rw [if_pos hm] at hst
            rw [hm] at cM
            obtain ⟨W', r1, B', kk⟩ := y3.set (k := k) (by rw [List.length_append, repL_len]; simp; omega) iH
            rw [List.set_append_left _ _ (by rw [repL_len]; exact hlt), ← hst] at B'
            have z1 := InsB.kept kk y1 q4
            have z2 := InsB.kept kk y2 hgw
            have HR : Hid (_ = _) := r1
            have HZ : Hid (_ ∧ _ ∧ _) := ⟨z1, z2, B'⟩
            clear hh y1 y2 y3 r1 B' kk z1 z2 hst
            go_wp2_with (refine wpList_store_run rfl 50 _ _ rfl rfl rfl HR.out ?_)
            go_roundw
            · exact ⟨k + 1, by simp, by omega, HZ.out⟩
            · simp [intOf]; omega
          · rw [if_neg hm] at hst
            have HZ : Hid (Keeps (fun _ => False) w3 wr ∧ Keeps (fun _ => False) w wr ∧ InsB wr gm (repL p (k + 1) ++ [iH])) := ⟨y1, y2, by rw [hst]; exact y3⟩
            generalize modeN p k = md at *
            clear hh y1 y2 y3 hst
            go_wp2_with fail
            go_roundw
            · exact ⟨k + 1, by simp, by omega, HZ.out⟩
            · simp [intOf]; omega
        · have hki : ¬ (k : Int) < p.length := by omega
          obtain rfl : k = p.length := by omega
          have IT := y3.take p.length
          rw [List.take_left' (repL_len p p.length)] at IT
          have II := IT.insAt cm (repL_wf HWF.out _) (by rw [repL_len]; omega)
          obtain ⟨hR2, hv2⟩ := rep_verd HV.out p.length
          have MC := modes_any _ _ wr II (HH.out wr y2).2
          rw [repL_len] at MC
          have HN2 : Hid (∀ X, Keeps (fun _ => False) wr X → NumAt X (.slice (some ⟨g, 0, none⟩) p.length p.length) ((List.range p.length).map (modeN p))) := fun X kX => mds_num (HB.out X (y1.trans kX)) (Nat.le_refl _)
          clear hh IT II y1 y3
          go_wp2_with fail
          refine MC.mono ?_
          rintro e w9 ⟨mb, rfl, k9, hok, -⟩
          obtain ⟨gb, rfl, -, hb9⟩ := hok (by rw [hv2])
          rw [hv2, repL_len]
          rw [repL_len] at hb9
          have N9 := mds_num (m := p.length) (cap := p.length) hb9 (Nat.le_refl _)
          rw [show (List.range p.length).map (modeN (repL p p.length)) = (List.range p.length).map (modeN p) from List.map_congr_left fun k _ => modeN_congr hR2 k] at N9
          have SM := samemodes_any _ _ _ (by simp; omega) w9 N9 (HN2.out w9 k9)
          have K9 := y2.trans k9
          clear hok MC hb9 N9 HN2
          go_wp2_with fail
          refine (NA _ _).mono ?_
          rintro e w10 ⟨rfl, rfl⟩
          go_wp2_with fail
          refine SM.mono ?_
          rintro e w11 ⟨rfl, k11⟩
          go_wp2_with fail
          go_ret
          exact ⟨rfl, K9.trans k11⟩
    · have hvc : verd (p ++ [iH]) = (-1, 200) := verd_count (.inr (by simp; omega))
      obtain rfl := hno (by rw [hvc]; decide)
      rw [hvc]
      have hl1 : (p.length : Int) + 1 > 256 := by omega
      clear hok hno MB
      go_wp2_with fail
      refine (NA _ _).mono ?_
      rintro e w7 ⟨rfl, rfl⟩
      go_wp2_with fail
      go_ret
      exact ⟨rfl, K6⟩
  · obtain rfl := hno hv
    have PA := program_any _ p w2 (HH.out w2 K2).1 (HH.out w2 K2).2
    generalize (verd p).2 = b at *
    generalize (verd p).1 = c at *
    unfold wrV at PA
    clear hok hno
    go_wp2_with fail
    refine (NA _ _).mono ?_
    rintro e w3 ⟨rfl, rfl⟩
    go_wp2_with fail
    refine PA.mono ?_
    rintro e w4 ⟨rfl, k4⟩
    go_wp2_with fail
    go_ret
    exact ⟨by simp, K2.trans k4⟩
end Go.Proofs.YtljapgoeomedkaaDoor
