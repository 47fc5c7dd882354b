
/- The walk of room's Lay (layer 24). No statement of the seat is proved here. -/
import Derived.Test.YthlbeohogfjamaaRkC
namespace Go.Proofs.Ythlbeohogfjamaa
open Go.RowKit

theorem zero_isW : isW 0 := ⟨Int.le_refl _, by simp⟩
set_option maxHeartbeats 4000000 in
theorem lay_any (b g c : Nat) (s : Wd) (a fr to : Int) (ha : isW a) (hfr : isW fr) (hto : isW to) (w : World) (h : WdAt w b g c s) :
    Calls Try.prog 32 #[.iface 24 (.pointer (some ⟨b, 0, none⟩)), .int .u64 a, .int .u64 fr, .int .u64 to] w fun e w' => e = .returned (.int .i64 (s.lay a fr to).1) ∧ WdAt w' b g c (s.lay a fr to).2 ∧ Keeps (two b g) w w' := by
  have mp := meth_put b
  have np := nil_put b
  have HH := hid h
  clear h
  have kk : Hid (Keeps (two b g) w w) := Keeps.refl _ w
  by_cases hft : to < fr
  · have hs : s.lay a fr to = (2, s) := by unfold Wd.lay; rw [if_pos hft]
    rw [hs]
    clear hs
    go_enter Try.func32, Try.ntmps32
    go_wp2_with fail
    refine wp_scope_straight ?_
    go_wp2_with fail
    simp only [Exit.noGoto]
    go_ret
    exact ⟨rfl, HH.out, kk.out⟩
  · have hs : s.lay a fr to = layK a (s.lay1 a fr to) 16 := by unfold Wd.lay; rw [if_neg hft]
    have hft' : fr ≤ to := by omega
    clear hft
    obtain ⟨⟨e1, s1⟩, eq1⟩ : ∃ r, s.put a fr = r := ⟨_, rfl⟩
    by_cases he1 : e1 = 0
    · subst he1
      obtain ⟨⟨e2, s2⟩, eq2⟩ : ∃ r, s1.put (endA a) to = r := ⟨_, rfl⟩
      have hl : s.lay1 a fr to = (e2, s2) := by unfold Wd.lay1; simp [eq1, eq2]
      rw [hl] at hs
      have HLY : Hid (_ = _) := hs
      have HE1 : Hid (_ = _) := eq1
      have HE2 : Hid (_ = _) := eq2
      obtain ⟨es, hes⟩ : ∃ r, (e2, s2) = r := ⟨_, rfl⟩
      have HES : Hid ((e2, s2) = es) := hes
      rw [hes] at HLY
      clear hs eq1 eq2 hl hes
      go_enter Try.func32, Try.ntmps32
      go_wp2_with fail
      refine wp_scope_straight ?_
      go_wp2_with fail
      have hh := HH.out
      refine (tput_r HE1 ha hfr hh).mono ?_
      rintro e_ w1 ⟨rfl, h1, k1⟩
      replace HH := hid h1
      replace kk := hid (kk.out.trans k1)
      clear hh h1 k1
      go_wp2_with fail
      refine wp_region_tail 7 (by kernel_rfl) (by kernel_rfl) ?_
      simp only [List.take_succ_cons, List.take_zero, List.drop_succ_cons, List.drop_zero]
      repeat (go_big_quiet_step ((go_at_call 64; exact Calls.quiet_of_same (endOf_any a _))))
      refine wpQuiet_nil ?_
      intro _ hw'
      obtain ⟨nq, hw''⟩ := hw'
      subst hw''
      try simp only [World.drewN_drewN]
      replace HH := hid (HH.out.drewN nq)
      replace kk := hid (kk.out.drewN nq)
      go_wp2_with fail
      have hh := HH.out
      refine (tput_r HE2 (uw_isW _) hto hh).mono ?_
      rintro e_ w2 ⟨rfl, h2, k2⟩
      replace HH := hid h2
      replace kk := hid (kk.out.trans k2)
      clear hh h2 k2
      go_wp2_with fail
      refine wp_label ?_
      go_wp2_with fail
      go_loopw [9, 10] (fun er sz wr => ∃ k : Nat, k ≤ 16 ∧ sz = .int .u64 ((k : Int) + 1) ∧ er = .int .i64 (layK a (es) k).1 ∧ Hid (WdAt wr b g c (layK a (es) k).2 ∧ Keeps (two b g) w wr)) (fun _ sz _ => 17 - (intOf sz).toNat)
      case atStart => exact ⟨0, by omega, rfl, by show _ = Value.int .i64 es.1; rw [← HES.out], hid ⟨by show WdAt _ b g c es.2; rw [← HES.out]; exact HH.out, kk.out⟩⟩
      case round =>
        obtain ⟨k, hk, rfl, rfl, hr⟩ := hrel
        obtain ⟨⟨e, s'⟩, eqk⟩ : ∃ r, layK a (es) k = r := ⟨_, rfl⟩
        rw [eqk] at hr ⊢
        dsimp only at hr ⊢
        have HEK : Hid (layK a (es) k = (e, s')) := eqk
        clear eqk HH kk
        by_cases hlt : k < 16
        · have hk1 : (k : Int) + 1 ≤ 16 := by omega
          have hk0 : 1 ≤ (k : Int) + 1 := by omega
          by_cases he : e = 0
          · subst he
            obtain ⟨⟨e', s''⟩, eqp⟩ : ∃ r, s'.put (hdA a ((k : Int) + 1)) 0 = r := ⟨_, rfl⟩
            have HN : Hid (layK a (es) (k + 1) = (e', s'')) := by
              show (if (layK a (es) k).1 = 0 then (layK a (es) k).2.put (hdA a ((k : Int) + 1)) 0 else layK a (es) k) = _
              rw [HEK.out]
              exact eqp
            have HE : Hid (_ = _) := eqp
            clear eqp HEK hlt
            have hwk : IntKind.u64.wrap ((k : Int) + 1 + 1) = (k : Int) + 1 + 1 := by rw [IntKind.wrap_u64]; omega
            go_wp2_with fail
            refine wp_region_tail 7 (by kernel_rfl) (by kernel_rfl) ?_
            simp only [List.take_succ_cons, List.take_zero, List.drop_succ_cons, List.drop_zero]
            repeat (go_big_quiet_step ((go_at_call 46; exact Calls.quiet_of_same (headOf_any a ((k : Int) + 1) _))))
            refine wpQuiet_nil ?_
            intro _ hw'
            obtain ⟨nq, hw''⟩ := hw'
            subst hw''
            try simp only [World.drewN_drewN]
            have hh := hr.out.1.drewN nq
            have kn := hr.out.2.drewN nq
            go_wp2_with fail
            refine (tput_r HE (uw_isW _) zero_isW hh).mono ?_
            rintro e_ w2 ⟨rfl, h2, k2⟩
            have HF := hid (And.intro h2 (kn.trans k2))
            clear hh kn h2 k2 hr HE
            go_wp2_with fail
            go_roundw
            case rel => exact ⟨k + 1, by omega, by simp, by rw [HN.out], by rw [HN.out]; exact HF⟩
            case measure => simp [intOf]; omega
          · have HST : Hid (layK a (es) 16 = (e, s')) := by
              have q := layK_stop a (es) k (by rw [HEK.out]; exact he) (16 - k)
              rw [show k + (16 - k) = 16 by omega, HEK.out] at q
              exact q
            clear HEK
            go_wp2_with fail
            simp only [Exit.noGoto]
            go_ret
            rw [HLY.out, HST.out]
            exact ⟨rfl, hr.out.1, hr.out.2⟩
        · obtain rfl : k = 16 := by omega
          clear hlt hk
          go_wp2_with fail
          simp only [Exit.noGoto]
          go_ret
          rw [HLY.out, HEK.out]
          exact ⟨rfl, hr.out.1, hr.out.2⟩
    · have hl : s.lay a fr to = (e1, s1) := by
        have q : s.lay1 a fr to = (e1, s1) := by unfold Wd.lay1; simp [eq1, he1]
        rw [hs, q]
        have q2 := layK_stop a (e1, s1) 0 he1 16
        rw [Nat.zero_add] at q2
        exact q2
      rw [hl]
      have HE1 : Hid (_ = _) := eq1
      clear hs eq1 hl
      go_enter Try.func32, Try.ntmps32
      go_wp2_with fail
      refine wp_scope_straight ?_
      go_wp2_with fail
      have hh := HH.out
      refine (tput_r HE1 ha hfr hh).mono ?_
      rintro e_ w1 ⟨rfl, h1, k1⟩
      replace HH := hid h1
      replace kk := hid (kk.out.trans k1)
      clear hh h1 k1
      go_wp2_with fail
      refine wp_label ?_
      go_wp2_with fail
      go_loopw [9, 10] (fun er sz wr => sz = .int .u64 1 ∧ er = .int .i64 e1 ∧ Hid (WdAt wr b g c s1 ∧ Keeps (two b g) w wr)) (fun _ _ _ => 0)
      case atStart => exact ⟨rfl, rfl, hid ⟨HH.out, kk.out⟩⟩
      case round =>
        obtain ⟨rfl, rfl, hr⟩ := hrel
        clear HH kk
        go_wp2_with fail
        simp only [Exit.noGoto]
        go_ret
        exact ⟨rfl, hr.out.1, hr.out.2⟩
end Go.Proofs.Ythlbeohogfjamaa
