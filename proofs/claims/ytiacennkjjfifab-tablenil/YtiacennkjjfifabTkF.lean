
/- The walk of room's Lay (layer 25). No statement of the seat is proved here. -/
import Derived.Test.YtiacennkjjfifabTkD
namespace Go.Proofs.Ytiacennkjjfifab
open Go.RowKit

theorem layK_len (a : Int) (es : Int × Wd) : ∀ k, (layK a es k).2.L.length ≤ es.2.L.length + k
  | 0 => Nat.le_refl _
  | k + 1 => by
    have ih := layK_len a es k
    show (if (layK a es k).1 = 0 then (layK a es k).2.put (hdA a ((k : Int) + 1)) 0 else layK a es k).2.L.length ≤ _
    split
    · have q := put_len (layK a es k).2 (hdA a ((k : Int) + 1)) 0
      omega
    · omega
theorem lay_len (s : Wd) (a fr to : Int) : (s.lay a fr to).2.L.length ≤ s.L.length + 18 := by
  unfold Wd.lay
  split
  · show s.L.length ≤ _; omega
  · have q := layK_len a (s.lay1 a fr to) 16
    have q2 : (s.lay1 a fr to).2.L.length ≤ s.L.length + 2 := by
      unfold Wd.lay1
      have h1 := put_len s a fr
      have h2 := put_len (s.put a fr).2 (endA a) to
      split <;> omega
    omega
theorem Rm.lay {s s1 : Wd} {a fr to e : Int} {k : Nat} (h : Rm s (k + 18)) (heq : s.lay a fr to = (e, s1)) : Rm s1 k := h.of (by have q := lay_len s a fr to; rw [heq] at q; exact q)
theorem layK_ok (a : Int) (es : Int × Wd) (h : es.2.Ok) : ∀ k, (layK a es k).2.Ok
  | 0 => h
  | k + 1 => by
    have ih := layK_ok a es h k
    show (if (layK a es k).1 = 0 then (layK a es k).2.put (hdA a ((k : Int) + 1)) 0 else layK a es k).2.Ok
    split
    · exact ih.put _ zero_isW
    · exact ih
theorem Wd.Ok.lay {s : Wd} (h : s.Ok) (a : Int) {fr to : Int} (hfr : isW fr) (hto : isW to) : (s.lay a fr to).2.Ok := by
  unfold Wd.lay
  split
  · exact h
  · refine layK_ok a _ ?_ 16
    unfold Wd.lay1
    split
    · exact (h.put a hfr).put _ hto
    · exact h.put a hfr
set_option maxHeartbeats 4000000 in
theorem lay_any (b g c : Nat) (s : Wd) (a fr to : Int) (ha : isW a) (hfr : isW fr) (hto : isW to) (rms : Rm s 18) (w : World) (h : WdAt 65 w b g c s) :
    Calls Try.prog 28 #[.iface 62 (.pointer (some ⟨b, 0, none⟩)), .int .u64 a, .int .u64 fr, .int .u64 to] w fun e w' => e = .returned (.int .i64 (s.lay a fr to).1) ∧ Hs 65 w b g c w' (s.lay a fr to).2 := by
  have mp := meth_put b
  have np := nil_put b
  have HH := hid (Hs.start h)
  clear h
  by_cases hft : to < fr
  · have hs : s.lay a fr to = (2, s) := by unfold Wd.lay; rw [if_pos hft]
    rw [hs]
    clear hs
    go_enter Try.func28, Try.ntmps28
    go_wp2_with fail
    refine wp_scope_straight ?_
    go_wp2_with fail
    simp only [Exit.noGoto]
    go_ret
    exact ⟨rfl, HH.out⟩
  · have hs : s.lay a fr to = layK a (s.lay1 a fr to) 16 := by unfold Wd.lay; rw [if_neg hft]
    have hft' : fr ≤ to := by omega
    clear hft
    obtain ⟨⟨e1, s1⟩, eq1⟩ : ∃ r, s.put a fr = r := ⟨_, rfl⟩
    have rms1 : Rm s1 17 := rms.put eq1
    by_cases he1 : e1 = 0
    · subst he1
      obtain ⟨⟨e2, s2⟩, eq2⟩ : ∃ r, s1.put (endA a) to = r := ⟨_, rfl⟩
      have rms2 : Rm s2 16 := rms1.put eq2
      have hl : s.lay1 a fr to = (e2, s2) := by unfold Wd.lay1; simp [eq1, eq2]
      rw [hl] at hs
      have HLY : Hid (_ = _) := hs
      have HE1 : Hid (_ = _) := eq1
      have HE2 : Hid (_ = _) := eq2
      obtain ⟨es, hes⟩ : ∃ r, (e2, s2) = r := ⟨_, rfl⟩
      have HES : Hid ((e2, s2) = es) := hes
      rw [hes] at HLY
      clear hs eq1 eq2 hl hes
      go_enter Try.func28, Try.ntmps28
      go_wp2_with fail
      refine wp_scope_straight ?_
      go_wp2_with fail
      have hh := HH.out
      refine (tput_r HE1 ha hfr (rms.le (by omega)) hh.wd).mono ?_
      rintro e_ w1 ⟨rfl, h1⟩
      replace HH := hid (hh.trans h1)
      clear hh h1
      go_wp2_with fail
      refine wp_region_tail 7 (by kernel_rfl) (by kernel_rfl) ?_
      simp only [List.take_succ_cons, List.take_zero, List.drop_succ_cons, List.drop_zero]
      repeat (go_big_quiet_step ((go_at_call 41; exact Calls.quiet_of_same (endOf_any a _))))
      refine wpQuiet_nil ?_
      intro _ hw'
      obtain ⟨nq, hw''⟩ := hw'
      subst hw''
      try simp only [World.drewN_drewN]
      replace HH := hid (HH.out.drewN nq)
      go_wp2_with fail
      have hh := HH.out
      refine (tput_r HE2 (uw_isW _) hto (rms1.le (by omega)) hh.wd).mono ?_
      rintro e_ w2 ⟨rfl, h2⟩
      replace HH := hid (hh.trans h2)
      clear hh h2
      go_wp2_with fail
      refine wp_label ?_
      go_wp2_with fail
      go_loopw [9, 10] (fun er sz wr => ∃ k : Nat, k ≤ 16 ∧ sz = .int .u64 ((k : Int) + 1) ∧ er = .int .i64 (layK a (es) k).1 ∧ Hid (Hs 65 w b g c wr (layK a (es) k).2)) (fun _ sz _ => 17 - (intOf sz).toNat)
      case atStart => exact ⟨0, by omega, rfl, by show _ = Value.int .i64 es.1; rw [← HES.out], hid (by show Hs _ w b g c _ es.2; rw [← HES.out]; exact HH.out)⟩
      case round =>
        obtain ⟨k, hk, rfl, rfl, hr⟩ := hrel
        obtain ⟨⟨e, s'⟩, eqk⟩ : ∃ r, layK a (es) k = r := ⟨_, rfl⟩
        rw [eqk] at hr ⊢
        dsimp only at hr ⊢
        have HEK : Hid (layK a (es) k = (e, s')) := eqk
        clear eqk HH
        by_cases hlt : k < 16
        · have hk1 : (k : Int) + 1 ≤ 16 := by omega
          have hk0 : 1 ≤ (k : Int) + 1 := by omega
          by_cases he : e = 0
          · subst he
            obtain ⟨⟨e', s''⟩, eqp⟩ : ∃ r, s'.put (hdA a ((k : Int) + 1)) 0 = r := ⟨_, rfl⟩
            have HN : Hid (layK a (es) (k + 1) = (e', s'')) := by
              show (if (layK a (es) k).1 = 0 then (layK a (es) k).2.put (hdA a ((k : Int) + 1)) 0 else layK a (es) k) = _
              rw [HEK.out]
              exact eqp
            have HE : Hid (_ = _) := eqp
            have hrm : Rm s' 1 := by
              have q := layK_len a es k
              rw [HEK.out, ← HES.out] at q
              have q1 : s'.L.length ≤ s2.L.length + k := q
              unfold Rm at rms2 ⊢; omega
            clear eqp HEK hlt
            have hwk : IntKind.u64.wrap ((k : Int) + 1 + 1) = (k : Int) + 1 + 1 := by rw [IntKind.wrap_u64]; omega
            go_wp2_with fail
            refine wp_region_tail 7 (by kernel_rfl) (by kernel_rfl) ?_
            simp only [List.take_succ_cons, List.take_zero, List.drop_succ_cons, List.drop_zero]
            repeat (go_big_quiet_step ((go_at_call 30; exact Calls.quiet_of_same (headOf_any a ((k : Int) + 1) _))))
            refine wpQuiet_nil ?_
            intro _ hw'
            obtain ⟨nq, hw''⟩ := hw'
            subst hw''
            try simp only [World.drewN_drewN]
            have hh := hr.out.drewN nq
            go_wp2_with fail
            refine (tput_r HE (uw_isW _) zero_isW hrm hh.wd).mono ?_
            rintro e_ w2 ⟨rfl, h2⟩
            have HF := hid (hh.trans h2)
            clear hh h2 hr HE hrm
            go_wp2_with fail
            go_roundw
            case rel => exact ⟨k + 1, by omega, by simp, by rw [HN.out], by rw [HN.out]; exact HF⟩
            case measure => simp [intOf]; omega
          · have HST : Hid (layK a (es) 16 = (e, s')) := by
              have q := layK_stop a (es) k (by rw [HEK.out]; exact he) (16 - k)
              rw [show k + (16 - k) = 16 by omega, HEK.out] at q
              exact q
            clear HEK
            go_wp2_with fail
            simp only [Exit.noGoto]
            go_ret
            rw [HLY.out, HST.out]
            exact ⟨rfl, hr.out⟩
        · obtain rfl : k = 16 := by omega
          clear hlt hk
          go_wp2_with fail
          simp only [Exit.noGoto]
          go_ret
          rw [HLY.out, HEK.out]
          exact ⟨rfl, hr.out⟩
    · have hl : s.lay a fr to = (e1, s1) := by
        have q : s.lay1 a fr to = (e1, s1) := by unfold Wd.lay1; simp [eq1, he1]
        rw [hs, q]
        have q2 := layK_stop a (e1, s1) 0 he1 16
        rw [Nat.zero_add] at q2
        exact q2
      rw [hl]
      have HE1 : Hid (_ = _) := eq1
      clear hs eq1 hl
      go_enter Try.func28, Try.ntmps28
      go_wp2_with fail
      refine wp_scope_straight ?_
      go_wp2_with fail
      have hh := HH.out
      refine (tput_r HE1 ha hfr (rms.le (by omega)) hh.wd).mono ?_
      rintro e_ w1 ⟨rfl, h1⟩
      replace HH := hid (hh.trans h1)
      clear hh h1
      go_wp2_with fail
      refine wp_label ?_
      go_wp2_with fail
      go_loopw [9, 10] (fun er sz wr => sz = .int .u64 1 ∧ er = .int .i64 e1 ∧ Hid (Hs 65 w b g c wr s1)) (fun _ _ _ => 0)
      case atStart => exact ⟨rfl, rfl, HH⟩
      case round =>
        obtain ⟨rfl, rfl, hr⟩ := hrel
        clear HH
        go_wp2_with fail
        simp only [Exit.noGoto]
        go_ret
        exact ⟨rfl, hr.out⟩
theorem lay_r {b g c : Nat} {s : Wd} {a fr to e1 : Int} {s1 : Wd} (heq : Hid (s.lay a fr to = (e1, s1))) (ha : isW a) (hfr : isW fr) (hto : isW to) (rms : Rm s 18) {w : World} (h : WdAt 65 w b g c s) :
    Calls Try.prog 28 #[.iface 62 (.pointer (some ⟨b, 0, none⟩)), .int .u64 a, .int .u64 fr, .int .u64 to] w fun e w' => e = .returned (.int .i64 e1) ∧ Hs 65 w b g c w' s1 := by
  have q := lay_any b g c s a fr to ha hfr hto rms w h
  rw [heq.out] at q
  exact q
end Go.Proofs.Ytiacennkjjfifab
