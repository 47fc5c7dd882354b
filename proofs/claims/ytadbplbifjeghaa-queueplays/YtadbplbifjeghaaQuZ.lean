
/- The walk of queue's chain (layer 23). No statement of the seat is proved here. -/
import Derived.Test.YtadbplbifjeghaaQuO
import Derived.Test.YtadbplbifjeghaaATailM
namespace Go.Proofs.Ytadbplbifjeghaa
open Go.RowKit

theorem chn_to0 {last : Int} {k : Nat} {a : Int} {sp : List (Int × Int)} {s : Wd} : chn last k a 0 sp s = if k = 0 ∧ a = last then ((sp, 0), s) else (([], 330), s) := by
  cases k with
  | zero => by_cases h : a = last <;> simp [chn, rtn, err, h]
  | succ k => simp [chn, err]
theorem chn_bad {last : Int} {k : Nat} {a to : Int} {sp : List (Int × Int)} {s : Wd} (h0 : to ≠ 0) (h : k = 0 ∨ decide (to = last) ≠ decide (k = 1)) : chn last k a to sp s = (([], 330), s) := by
  cases k with
  | zero => simp [chn, err, h0]
  | succ k =>
    have h2 : decide (to = last) ≠ decide (k = 0) := by rcases h with h | h; omega; simpa using h
    unfold chn
    rw [if_neg h0, if_pos h2]
    rfl
theorem chn_on {last : Int} {k : Nat} {a to : Int} {sp : List (Int × Int)} {s : Wd} (h0 : to ≠ 0) (h : decide (to = last) = decide (k = 0)) : chn last (k + 1) a to sp s = bnd (getsF (nodeA to) 2) (fun l => chn last k to (oat l 1) (sp ++ [(nodeA to, oat l 0)])) [] s := by
  conv => lhs; unfold chn
  rw [if_neg h0, if_neg (by simp [h])]

set_option maxRecDepth 100000 in
set_option maxHeartbeats 4000000 in
theorem chain_any (t b g c : Nat) (s : Wd) (q : Int) (hq : isW q) (w : World) (h : Tw w t b g c s) :
    Calls Try.prog 31 #[.iface 24 (.pointer (some ⟨t, 0, none⟩)), .int .u64 q] w fun e w' => ∃ v, e = .returned (.tuple #[v, .int .i64 (Wd.chain q s).1.2]) ∧ Ow w' w.heap.size v (Wd.chain q s).1.1 ∧ Tw w' t b g c (Wd.chain q s).2 ∧ Keeps (two b g) w w' := by
  have HH := hid h
  have oks : s.Ok := h.wd.ok
  have HLT : Hid (t < w.heap.size ∧ b < w.heap.size ∧ g < w.heap.size) := h.ltt
  clear h
  have kk : Hid (Keeps (two b g) w w) := Keeps.refl _ w
  obtain ⟨⟨⟨L, e⟩, s1⟩, eq1⟩ : ∃ rr, getsF q 3 s = rr := ⟨_, rfl⟩
  by_cases he : e = 0
  · subst he
    have hl3 := gets_isW oks _ _ eq1
    obtain ⟨l0, hl0⟩ : ∃ x, oat L 0 = x := ⟨_, rfl⟩
    obtain ⟨l1, hl1⟩ : ∃ x, oat L 1 = x := ⟨_, rfl⟩
    obtain ⟨l2, hl2⟩ : ∃ x, oat L 2 = x := ⟨_, rfl⟩
    have hwl2 : isW l2 := by rw [← hl2]; exact hl3.2 2
    by_cases hbig : 65536 < l2
    · have hs : Wd.chain q s = (([], 330), s1) := by
        unfold Wd.chain
        rw [bnd_ok eq1, if_pos (by rw [hl2]; exact hbig)]
        rfl
      rw [hs]
      have HE1 : Hid (_ = _) := eq1
      have HL3 := hid hl3
      have HL2 := hid hl2
      clear hs eq1 hl0 hl1 hl2 hl3
      go_enter Try.func31, Try.ntmps31
      go_wp2_with fail
      refine wp_scope_straight ?_
      go_wp2_with fail
      have hh := HH.out
      refine (qget_laid 3 94 _ rfl HE1 hq (by omega) hh).mono ?_
      rintro e_ w1 ⟨rfl, h1, k1, b1⟩
      have hc2 := (b1 rfl).cell (i := 2) (by rw [HL3.out.1]; omega)
      rw [HL2.out] at hc2
      replace HH := hid h1
      replace kk := hid (kk.out.trans k1)
      clear hh h1 k1 b1 HE1
      go_wp2_with fail
      simp only [Exit.noGoto]
      go_ret2
      exact ⟨_, rfl, Ow.nil _ _, HH.out, kk.out⟩
    · have hK : ((l2.toNat : Nat) : Int) = l2 := by have := hwl2.1; omega
      obtain ⟨K0, hK0⟩ : ∃ x, l2.toNat = x := ⟨_, rfl⟩
      rw [hK0] at hK
      have hK1 : K0 ≤ 65536 := by omega
      subst hK
      have hs : Wd.chain q s = chn l1 K0 0 l0 [] s1 := by
        unfold Wd.chain
        rw [bnd_ok eq1, if_neg (by rw [hl2]; exact hbig), hl0, hl1, hl2, hK0]
      have hbig' : (K0 : Int) ≤ 65536 := by omega
      have HS := hid hs
      have HE1 : Hid (_ = _) := eq1
      have HL3 := hid hl3
      have HL := hid (And.intro hl0 (And.intro hl1 hl2))
      clear hs eq1 hl0 hl1 hl2 hl3 hK0 hbig hwl2
      go_enter Try.func31, Try.ntmps31
      go_wp2_with fail
      refine wp_scope_straight ?_
      go_wp2_with fail
      have hh := HH.out
      refine (qget_laid 3 94 _ rfl HE1 hq (by omega) hh).mono ?_
      rintro e_ w1 ⟨rfl, h1, k1, b1⟩
      have hc2 := (b1 rfl).cell (i := 2) (by rw [HL3.out.1]; omega)
      rw [HL.out.2.2] at hc2
      have hc0 := (b1 rfl).cell (i := 0) (by rw [HL3.out.1]; omega)
      rw [HL.out.1] at hc0
      have HB := hid (b1 rfl)
      have HZ := hid (show w.heap.size + 1 ≤ w1.heap.size from (b1 rfl).lt)
      replace HH := hid h1
      replace kk := hid (kk.out.trans k1)
      clear hh h1 k1 b1 HE1
      go_wp2_with fail
      go_quiet (fail)
      go_wp2_with fail
      refine wp_label ?_
      go_wp2_with fail
      go_loopw [8, 9, 10, 11] (fun lv sv av tv wr => ∃ K : Nat, ∃ a to : Int, ∃ sp sj, lv = .int .u64 (K : Int) ∧ av = .int .u64 a ∧ tv = .int .u64 to ∧ K ≤ 65536 ∧ Hid (Ow wr (w.heap.size + 1) sv sp ∧ sp.length + K ≤ 65536 ∧ Tw wr t b g c sj ∧ Keeps (two b g) w wr ∧ Blk wr w.heap.size 94 3 L ∧ w.heap.size + 1 ≤ wr.heap.size ∧ chn l1 K a to sp sj = chn l1 K0 0 l0 [] s1)) (fun lv _ _ _ _ => (intOf lv).toNat)
      case atStart => exact ⟨K0, 0, l0, [], s1, rfl, rfl, rfl, hK1, hid ⟨Ow.nil _ _, by simp; omega, HH.out.drewN _, kk.out.drewN _, HB.out.kept ((Keeps.refl (fun _ => False) w1).drewN _) (fun f => f), HZ.out, rfl⟩⟩
      case round =>
        obtain ⟨K, a, to, sp, sj, rfl, rfl, rfl, hK65, hr⟩ := hrel
        clear HH kk HB HZ hc0 hc2
        have hc1 := hr.out.2.2.2.2.1.cell (i := 1) (by rw [HL3.out.1]; omega)
        rw [HL.out.2.1] at hc1
        have HS2 := HS
        clear HS
        by_cases ht0 : to = 0
        · subst ht0
          have hfin := hr.out.2.2.2.2.2.2
          rw [chn_to0] at hfin
          by_cases hk0 : K = 0
          · subst hk0
            by_cases hal : a = l1
            · have HF : Hid (chn l1 K0 0 l0 [] s1 = ((sp, 0), sj)) := hid (by rw [← hfin]; simp [hal])
              subst hal
              clear hfin
              obtain ⟨av, cv, rfl⟩ := hr.out.1.form
              go_wp2_with fail
              simp only [Exit.noGoto]
              go_ret2
              rw [HS2.out, HF.out]
              exact ⟨_, rfl, hr.out.1.base (by omega), hr.out.2.2.1, hr.out.2.2.2.1⟩
            · have HF : Hid (chn l1 K0 0 l0 [] s1 = (([], 330), sj)) := hid (by rw [← hfin]; simp [hal])
              clear hfin
              go_wp2_with fail
              simp only [Exit.noGoto]
              go_ret2
              rw [HS2.out, HF.out]
              exact ⟨_, rfl, Ow.nil _ _, hr.out.2.2.1, hr.out.2.2.2.1⟩
          · have HF : Hid (chn l1 K0 0 l0 [] s1 = (([], 330), sj)) := hid (by rw [← hfin]; simp [hk0])
            have hk1 : (0 : Int) < K := by omega
            clear hfin hk0
            go_wp2_with fail
            simp only [Exit.noGoto]
            go_ret2
            rw [HS2.out, HF.out]
            exact ⟨_, rfl, Ow.nil _ _, hr.out.2.2.1, hr.out.2.2.2.1⟩
        · by_cases hk0 : K = 0
          · have HF : Hid (chn l1 K0 0 l0 [] s1 = (([], 330), sj)) := by rw [← hr.out.2.2.2.2.2.2]; exact chn_bad ht0 (.inl hk0)
            subst hk0
            go_wp2_with fail
            simp only [Exit.noGoto]
            go_ret2
            rw [HS2.out, HF.out]
            exact ⟨_, rfl, Ow.nil _ _, hr.out.2.2.1, hr.out.2.2.2.1⟩
          · obtain ⟨k, rfl⟩ : ∃ k, K = k + 1 := ⟨K - 1, by omega⟩
            have hk1 : ((k + 1 : Nat) : Int) ≠ 0 := by omega
            clear hk0
            by_cases hmm : decide (to = l1) = decide (k = 0)
            · obtain ⟨β, hb⟩ : ∃ β, (to == l1) = β := ⟨_, rfl⟩
              have hb2 : ((k : Int) + 1 == 1) = β := by
                rw [← hb]
                have e1 : (to == l1) = decide (to = l1) := rfl
                have e2 : ((k : Int) + 1 == 1) = decide (k = 0) := by
                  by_cases h2 : k = 0
                  · subst h2; rfl
                  · have q : (k : Int) + 1 ≠ 1 := by omega
                    simp only [h2, decide_false]
                    simpa using q
                rw [e1, e2, hmm]
              have hchn := hr.out.2.2.2.2.2.2
              rw [chn_on ht0 (by exact hmm)] at hchn
              have hwk : IntKind.u64.wrap ((k : Int) + 1 - 1) = k := by rw [IntKind.wrap_u64]; omega
              obtain ⟨⟨⟨l, e⟩, s'⟩, eq2⟩ : ∃ rr, getsF (nodeA to) 2 sj = rr := ⟨_, rfl⟩
              have HE2 : Hid (_ = _) := eq2
              have hlt := HLT.out
              obtain ⟨av, cv, rfl⟩ := hr.out.1.form
              by_cases he : e = 0
              · subst he
                have hl2 := gets_isW hr.out.2.2.1.wd.ok _ _ eq2
                rw [bnd_ok eq2] at hchn
                have HCH := hid hchn
                have HL2 := hid hl2
                clear eq2 hchn hmm hl2 hlt
                go_wp2_with fail
                refine wp_region_tail 4 (by kernel_rfl) (by kernel_rfl) ?_
                simp only [List.take_succ_cons, List.take_zero, List.drop_succ_cons, List.drop_zero]
                repeat (go_big_quiet_step ((go_at_call 40; exact Calls.quiet_of_same (nodeOf_any to _))))
                refine wpQuiet_nil ?_
                intro _ hw'
                obtain ⟨nq2, hw''⟩ := hw'
                subst hw''
                try simp only [World.drewN_drewN]
                go_wp2_with fail
                have hh := hr.out.2.2.1
                refine (qget_laid_q nq2 2 90 _ rfl HE2 (uw_isW _) (by omega) hh).mono ?_
                rintro e_ w2 ⟨rfl, h2, k2, b2⟩
                have HTW := hid h2
                have HN := hid (b2 rfl)
                have HX := hid (And.intro hh.ltt (hr.out.1))
                have HK2 := hid k2
                have hcn0 := (b2 rfl).cell (i := 0) (by rw [HL2.out.1]; omega)
                have hcn1 := (b2 rfl).cell (i := 1) (by rw [HL2.out.1]; omega)
                have HR2 := hid (And.intro (hr.out.1.kept k2 (fun q e => by have p := HLT.out; rcases e with e | e <;> omega)) (And.intro hr.out.2.1 (And.intro (hr.out.2.2.2.1.trans k2) (And.intro (hr.out.2.2.2.2.1.kept k2 (fun e => by have p := HLT.out; rcases e with e | e <;> omega)) (Nat.le_trans hr.out.2.2.2.2.2.1 k2.size)))))
                clear hh h2 k2 b2 HE2 hr hc1
                go_wp2_with fail
                have hn0' : (w2.alloc (.cells #[.int .u64 (nodeA to), .int .u64 (oat l 0)] 84)).cell? ⟨wr.heap.size, 0, none⟩ = some (.int .u64 (oat l 0)) := (HN.out.kept ((Keeps.refl (fun _ => False) w2).alloc _) (fun f => f)).cell (i := 0) (by rw [HL2.out.1]; omega)
                refine wp_region_midE 6 (w2.alloc (.cells #[.int .u64 (nodeA to), .int .u64 (oat l 0)] 84)) (.slice (some ⟨w2.heap.size, 0, none⟩) 1 1) _ (by kernel_rfl) (by kernel_rfl) rfl (by kernel_rfl) ?_
                apply Exists.intro
                refine ⟨?mq, ?mw, ?mr, ?ml⟩
                case mq =>
                  intro f
                  have X0 : (if f = true then w2.alloc (.cells #[.int .u64 (nodeA to), .int .u64 (oat l 0)] 84) else w2).cell? ⟨wr.heap.size, 0, none⟩ = some (.int .u64 (oat l 0)) := by cases f; exact hcn0; exact hn0'
                  generalize (if f = true then w2.alloc (.cells #[.int .u64 (nodeA to), .int .u64 (oat l 0)] 84) else w2) = X at *
                  simp only [List.take_succ_cons, List.take_zero]
                  repeat (go_big_quiet_step ((go_at_call 40; exact Calls.quiet_of_same (nodeOf_any to _))))
                  exact wpQuiet_nil rfl
                case mw => rfl
                case mr =>
                  intro q
                  go_simp
                  rfl
                case ml =>
                  intro n1
                  have hro : Ow (w2.drewN n1) (w.heap.size + 1) (.slice av sp.length cv) sp := HR2.out.1.kept ((Keeps.refl (fun _ => False) w2).drewN n1) (fun _ f => f.elim)
                  have hbz : w.heap.size + 1 ≤ (w2.drewN n1).heap.size := HR2.out.2.2.2.2
                  obtain ⟨v', wa, hrun, ho, hk, hown⟩ := hro.push hbz (by have := HR2.out.2.1; omega) (nodeA to, oat l 0)
                  have HR : Hid ((Builtin.append_ #[80, 80] 80 #[.slice av sp.length cv, .slice (some ⟨w2.heap.size, 0, none⟩) 1 1]).run Try.prog ((w2.alloc (.cells #[.int .u64 (nodeA to), .int .u64 (oat l 0)] 84)).drewN n1) = .ok v' wa) := hrun
                  have kka : Keeps (fun g => (Value.slice av sp.length cv).ownBlock = some g) w2 wa := ((Keeps.refl _ w2).drewN n1).trans hk
                  have hob : ∀ q, (Value.slice av sp.length cv).ownBlock = some q → w.heap.size + 1 ≤ q ∧ q < wr.heap.size := fun q e => ⟨(HX.out.2.own e).2, (HX.out.2.own e).1⟩
                  have hna := (HN.out.kept kka (fun e => by have := (hob _ e).2; omega)).cell (i := 1) (by rw [HL2.out.1]; omega)
                  have hlt := HLT.out
                  have HT3 := hid (show Tw wa t b g c s' from ⟨HTW.out.tx.kept kka (fun e => by have := (hob _ e).1; omega), HTW.out.wd.kept kka (fun e => by have := (hob _ e).1; omega) (fun e => by have := (hob _ e).1; omega), HTW.out.ne⟩)
                  have HK3 := hid (HR2.out.2.2.1.step kka (fun i hi e => by have := (hob _ e).1; omega))
                  have HB3 := hid (HR2.out.2.2.2.1.kept kka (fun e => by have := (hob _ e).1; omega))
                  have HO3 := hid (And.intro ho (Nat.le_trans HR2.out.2.2.2.2 kka.size))
                  have HLN := HR2.out.2.1
                  clear hrun ho hk hown hro hbz kka hob hlt HR2 HTW HN HX HK2 hcn0 hcn1 hn0'
                  simp only [List.drop_succ_cons, List.drop_zero, Act.put, List.setIfInBounds_toArray, List.set_cons_zero, List.set_cons_succ]
                  go_wp2_with (at_builtin; refine wpList_append_run rfl _ _ 80 rfl rfl rfl HR.out ?_; clear HR)
                  go_quiet (fail)
                  go_wp2_with fail
                  obtain ⟨a', c', rfl⟩ := HO3.out.1.form
                  go_roundw
                  case rel => exact ⟨k, to, oat l 1, sp ++ [(nodeA to, oat l 0)], s', rfl, rfl, rfl, by omega, hid ⟨HO3.out.1.kept ((Keeps.refl (fun _ => False) wa).drewN _) (fun _ f => f.elim), by rw [List.length_append, List.length_singleton]; omega, HT3.out.drewN _, HK3.out.drewN _, HB3.out.kept ((Keeps.refl (fun _ => False) wa).drewN _) (fun f => f), HO3.out.2, HCH.out⟩⟩
                  case measure => simp [intOf]
              · rw [bnd_no eq2 he] at hchn
                have HF := hid hchn.symm
                clear eq2 hchn hmm hlt
                go_wp2_with fail
                refine wp_region_tail 4 (by kernel_rfl) (by kernel_rfl) ?_
                simp only [List.take_succ_cons, List.take_zero, List.drop_succ_cons, List.drop_zero]
                repeat (go_big_quiet_step ((go_at_call 40; exact Calls.quiet_of_same (nodeOf_any to _))))
                refine wpQuiet_nil ?_
                intro _ hw'
                obtain ⟨nq2, hw''⟩ := hw'
                subst hw''
                try simp only [World.drewN_drewN]
                go_wp2_with fail
                have hh := hr.out.2.2.1
                refine (qget_laid_q nq2 2 90 _ rfl HE2 (uw_isW _) (by omega) hh).mono ?_
                rintro e_ w2 ⟨rfl, h2, k2, _⟩
                have HTW := hid (And.intro h2 (hr.out.2.2.2.1.trans k2))
                clear hh h2 k2 HE2 hr hc1
                go_wp2_with fail
                simp only [Exit.noGoto]
                go_ret2
                rw [HS2.out, HF.out]
                exact ⟨_, rfl, Ow.nil _ _, HTW.out.1, HTW.out.2⟩
            · have HF : Hid (chn l1 K0 0 l0 [] s1 = (([], 330), sj)) := by rw [← hr.out.2.2.2.2.2.2]; exact chn_bad ht0 (.inr (by simpa using hmm))
              by_cases hk00 : k = 0
              · subst hk00
                have htl : (to == l1) = false := by have q : to ≠ l1 := by simpa using hmm
                                                    simpa using q
                clear hmm
                go_wp2_with fail
                simp only [Exit.noGoto]
                go_ret2
                rw [HS2.out, HF.out]
                exact ⟨_, rfl, Ow.nil _ _, hr.out.2.2.1, hr.out.2.2.2.1⟩
              · have htl : to = l1 := by simpa [hk00] using hmm
                subst htl
                have hk2 : ((k : Int) + 1 == 1) = false := by have q : (k : Int) + 1 ≠ 1 := by omega
                                                              simpa using q
                clear hmm hk00
                go_wp2_with fail
                simp only [Exit.noGoto]
                go_ret2
                rw [HS2.out, HF.out]
                exact ⟨_, rfl, Ow.nil _ _, hr.out.2.2.1, hr.out.2.2.2.1⟩
  · have hs : Wd.chain q s = (([], e), s1) := by
      unfold Wd.chain
      rw [bnd_no eq1 he]
    rw [hs]
    have HE1 : Hid (_ = _) := eq1
    clear hs eq1
    go_enter Try.func31, Try.ntmps31
    go_wp2_with fail
    refine wp_scope_straight ?_
    go_wp2_with fail
    have hh := HH.out
    refine (qget_laid 3 94 _ rfl HE1 hq (by omega) hh).mono ?_
    rintro e_ w1 ⟨rfl, h1, k1, _⟩
    replace HH := hid h1
    replace kk := hid (kk.out.trans k1)
    clear hh h1 k1 HE1
    go_wp2_with fail
    simp only [Exit.noGoto]
    go_ret2
    exact ⟨_, rfl, Ow.nil _ _, HH.out, kk.out⟩
end Go.Proofs.Ytadbplbifjeghaa
