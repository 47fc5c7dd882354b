
/- The walk of queue's hang (layer 23). No statement of the seat is proved here. -/
import Derived.Test.YtadbplbifjeghaaQuR
namespace Go.Proofs.Ytadbplbifjeghaa
open Go.RowKit

set_option maxHeartbeats 2000000 in
theorem hang_any (t b g c : Nat) (s : Wd) (q n : Int) (hq : isW q) (w : World) (h : Tw w t b g c s) :
    Calls Try.prog 37 #[.iface 24 (.pointer (some ⟨t, 0, none⟩)), .int .u64 q, .int .u64 n] w fun e w' => e = .returned (.int .i64 (hangU q n s).1.2) ∧ Tw w' t b g c (hangU q n s).2 ∧ Keeps (two b g) w w' := by
  have mg := meth_get t
  have mp := meth_put t
  have ng := nil_get t
  have np := nil_put t
  have oks : s.Ok := h.wd.ok
  have HH := hid h
  clear h
  have hq0 : IntKind.u64.wrap q = q := uw_id hq
  have hq1 : IntKind.u64.wrap (q + 0) = q := by rw [Int.add_zero]; exact uw_id hq
  obtain ⟨⟨⟨x, e⟩, s1⟩, eq1⟩ : ∃ r, s.get (q1 q) = r := ⟨_, rfl⟩
  have hwx : isW x := get_isW eq1 oks
  have oks1 : s1.Ok := by have q := (oks.get (q1 q)).1; rw [eq1] at q; exact q
  by_cases hze : e = 0
  · subst hze
    by_cases hzx : x = 0
    · subst hzx
      obtain ⟨⟨f, s2⟩, eq2⟩ : ∃ r, s1.put (q) (uw (n + 1)) = r := ⟨_, rfl⟩
      have oks2 : s2.Ok := by have q := oks1.put (q) ((uw_isW _) : isW (uw (n + 1))); rw [eq2] at q; exact q
      by_cases hzf : f = 0
      · subst hzf
        obtain ⟨⟨f2, s3⟩, eq3⟩ : ∃ r, s2.put (q1 q) (uw (n + 1)) = r := ⟨_, rfl⟩
        have hs : hangU q n s = (((), f2), s3) := by
          unfold hangU
          simp [eq1, eq2, eq3, bnd, putU]
        rw [hs]
        have HE1 : Hid (_ = _) := eq1
        have HE2 : Hid (_ = _) := eq2
        have HE3 : Hid (_ = _) := eq3
        clear hs eq1 eq2 eq3
        have kk : Hid (Keeps (two b g) w w) := Keeps.refl _ w
        go_enter Try.func37, Try.ntmps37
        go_wp2_with fail
        have hh := HH.out
        refine (tget_r HE1 (uw_isW _) hh).mono ?_
        rintro e_ w1 ⟨rfl, h1, k1⟩
        replace HH := hid h1
        replace kk := hid (kk.out.trans k1)
        clear hh h1 k1
        go_wp2_with fail
        refine wp_region_tail 7 (by kernel_rfl) (by kernel_rfl) ?_
        simp only [List.take_succ_cons, List.take_zero, List.drop_succ_cons, List.drop_zero]
        repeat (go_big_quiet_step ((go_at_call 47; exact Calls.quiet_of_same (leadsTo_any n _))))
        refine wpQuiet_nil ?_
        intro _ hw'
        obtain ⟨nq, hw''⟩ := hw'
        subst hw''
        try simp only [World.drewN_drewN]
        replace HH := hid (HH.out.drewN nq)
        replace kk := hid (kk.out.drewN nq)
        go_wp2_with fail
        have hh := HH.out
        refine (tput_r HE2 hq (uw_isW _) hh).mono ?_
        rintro e_ w2 ⟨rfl, h2, k2⟩
        replace HH := hid h2
        replace kk := hid (kk.out.trans k2)
        clear hh h2 k2
        go_wp2_with fail
        refine wp_region_tail 8 (by kernel_rfl) (by kernel_rfl) ?_
        simp only [List.take_succ_cons, List.take_zero, List.drop_succ_cons, List.drop_zero]
        repeat (go_big_quiet_step ((go_at_call 47; exact Calls.quiet_of_same (leadsTo_any n _))))
        refine wpQuiet_nil ?_
        intro _ hw'
        obtain ⟨nq, hw''⟩ := hw'
        subst hw''
        try simp only [World.drewN_drewN]
        replace HH := hid (HH.out.drewN nq)
        replace kk := hid (kk.out.drewN nq)
        go_wp2_with fail
        have hh := HH.out
        refine (tput_r HE3 (uw_isW _) (uw_isW _) hh).mono ?_
        rintro e_ w3 ⟨rfl, h3, k3⟩
        replace HH := hid h3
        replace kk := hid (kk.out.trans k3)
        clear hh h3 k3
        go_wp2_with fail
        go_ret
        exact ⟨rfl, HH.out, kk.out⟩
      · skip
        have hs : hangU q n s = (((), f), s2) := by
          unfold hangU
          simp [eq1, eq2, hzf, bnd, putU]
        rw [hs]
        have HE1 : Hid (_ = _) := eq1
        have HE2 : Hid (_ = _) := eq2
        clear hs eq1 eq2
        have kk : Hid (Keeps (two b g) w w) := Keeps.refl _ w
        go_enter Try.func37, Try.ntmps37
        go_wp2_with fail
        have hh := HH.out
        refine (tget_r HE1 (uw_isW _) hh).mono ?_
        rintro e_ w1 ⟨rfl, h1, k1⟩
        replace HH := hid h1
        replace kk := hid (kk.out.trans k1)
        clear hh h1 k1
        go_wp2_with fail
        refine wp_region_tail 7 (by kernel_rfl) (by kernel_rfl) ?_
        simp only [List.take_succ_cons, List.take_zero, List.drop_succ_cons, List.drop_zero]
        repeat (go_big_quiet_step ((go_at_call 47; exact Calls.quiet_of_same (leadsTo_any n _))))
        refine wpQuiet_nil ?_
        intro _ hw'
        obtain ⟨nq, hw''⟩ := hw'
        subst hw''
        try simp only [World.drewN_drewN]
        replace HH := hid (HH.out.drewN nq)
        replace kk := hid (kk.out.drewN nq)
        go_wp2_with fail
        have hh := HH.out
        refine (tput_r HE2 hq (uw_isW _) hh).mono ?_
        rintro e_ w2 ⟨rfl, h2, k2⟩
        replace HH := hid h2
        replace kk := hid (kk.out.trans k2)
        clear hh h2 k2
        go_wp2_with fail
        go_ret
        exact ⟨rfl, HH.out, kk.out⟩
    · skip
      obtain ⟨⟨f, s2⟩, eq2⟩ : ∃ r, s1.put (uw (nodeA x + 1)) (uw (n + 1)) = r := ⟨_, rfl⟩
      have oks2 : s2.Ok := by have q := oks1.put (uw (nodeA x + 1)) ((uw_isW _) : isW (uw (n + 1))); rw [eq2] at q; exact q
      by_cases hzf : f = 0
      · subst hzf
        obtain ⟨⟨f2, s3⟩, eq3⟩ : ∃ r, s2.put (q1 q) (uw (n + 1)) = r := ⟨_, rfl⟩
        have hs : hangU q n s = (((), f2), s3) := by
          unfold hangU
          simp [eq1, eq2, eq3, hzx, bnd, putU]
        rw [hs]
        have HE1 : Hid (_ = _) := eq1
        have HE2 : Hid (_ = _) := eq2
        have HE3 : Hid (_ = _) := eq3
        clear hs eq1 eq2 eq3
        have kk : Hid (Keeps (two b g) w w) := Keeps.refl _ w
        go_enter Try.func37, Try.ntmps37
        go_wp2_with fail
        have hh := HH.out
        refine (tget_r HE1 (uw_isW _) hh).mono ?_
        rintro e_ w1 ⟨rfl, h1, k1⟩
        replace HH := hid h1
        replace kk := hid (kk.out.trans k1)
        clear hh h1 k1
        go_wp2_with fail
        refine (nodeOf_any x _).mono ?_
        rintro e_ w_ ⟨rfl, rfl⟩
        go_wp2_with fail
        refine wp_region_tail 7 (by kernel_rfl) (by kernel_rfl) ?_
        simp only [List.take_succ_cons, List.take_zero, List.drop_succ_cons, List.drop_zero]
        repeat (go_big_quiet_step ((go_at_call 47; exact Calls.quiet_of_same (leadsTo_any n _))))
        refine wpQuiet_nil ?_
        intro _ hw'
        obtain ⟨nq, hw''⟩ := hw'
        subst hw''
        try simp only [World.drewN_drewN]
        replace HH := hid (HH.out.drewN nq)
        replace kk := hid (kk.out.drewN nq)
        go_wp2_with fail
        have hh := HH.out
        refine (tput_r HE2 (uw_isW _) (uw_isW _) hh).mono ?_
        rintro e_ w2 ⟨rfl, h2, k2⟩
        replace HH := hid h2
        replace kk := hid (kk.out.trans k2)
        clear hh h2 k2
        go_wp2_with fail
        refine wp_region_tail 8 (by kernel_rfl) (by kernel_rfl) ?_
        simp only [List.take_succ_cons, List.take_zero, List.drop_succ_cons, List.drop_zero]
        repeat (go_big_quiet_step ((go_at_call 47; exact Calls.quiet_of_same (leadsTo_any n _))))
        refine wpQuiet_nil ?_
        intro _ hw'
        obtain ⟨nq, hw''⟩ := hw'
        subst hw''
        try simp only [World.drewN_drewN]
        replace HH := hid (HH.out.drewN nq)
        replace kk := hid (kk.out.drewN nq)
        go_wp2_with fail
        have hh := HH.out
        refine (tput_r HE3 (uw_isW _) (uw_isW _) hh).mono ?_
        rintro e_ w3 ⟨rfl, h3, k3⟩
        replace HH := hid h3
        replace kk := hid (kk.out.trans k3)
        clear hh h3 k3
        go_wp2_with fail
        go_ret
        exact ⟨rfl, HH.out, kk.out⟩
      · skip
        have hs : hangU q n s = (((), f), s2) := by
          unfold hangU
          simp [eq1, eq2, hzx, hzf, bnd, putU]
        rw [hs]
        have HE1 : Hid (_ = _) := eq1
        have HE2 : Hid (_ = _) := eq2
        clear hs eq1 eq2
        have kk : Hid (Keeps (two b g) w w) := Keeps.refl _ w
        go_enter Try.func37, Try.ntmps37
        go_wp2_with fail
        have hh := HH.out
        refine (tget_r HE1 (uw_isW _) hh).mono ?_
        rintro e_ w1 ⟨rfl, h1, k1⟩
        replace HH := hid h1
        replace kk := hid (kk.out.trans k1)
        clear hh h1 k1
        go_wp2_with fail
        refine (nodeOf_any x _).mono ?_
        rintro e_ w_ ⟨rfl, rfl⟩
        go_wp2_with fail
        refine wp_region_tail 7 (by kernel_rfl) (by kernel_rfl) ?_
        simp only [List.take_succ_cons, List.take_zero, List.drop_succ_cons, List.drop_zero]
        repeat (go_big_quiet_step ((go_at_call 47; exact Calls.quiet_of_same (leadsTo_any n _))))
        refine wpQuiet_nil ?_
        intro _ hw'
        obtain ⟨nq, hw''⟩ := hw'
        subst hw''
        try simp only [World.drewN_drewN]
        replace HH := hid (HH.out.drewN nq)
        replace kk := hid (kk.out.drewN nq)
        go_wp2_with fail
        have hh := HH.out
        refine (tput_r HE2 (uw_isW _) (uw_isW _) hh).mono ?_
        rintro e_ w2 ⟨rfl, h2, k2⟩
        replace HH := hid h2
        replace kk := hid (kk.out.trans k2)
        clear hh h2 k2
        go_wp2_with fail
        go_ret
        exact ⟨rfl, HH.out, kk.out⟩
  · skip
    have hs : hangU q n s = (((), e), s1) := by
      unfold hangU
      simp [eq1, hze, bnd]
    rw [hs]
    have HE1 : Hid (_ = _) := eq1
    clear hs eq1
    have kk : Hid (Keeps (two b g) w w) := Keeps.refl _ w
    go_enter Try.func37, Try.ntmps37
    go_wp2_with fail
    have hh := HH.out
    refine (tget_r HE1 (uw_isW _) hh).mono ?_
    rintro e_ w1 ⟨rfl, h1, k1⟩
    replace HH := hid h1
    replace kk := hid (kk.out.trans k1)
    clear hh h1 k1
    go_wp2_with fail
    go_ret
    exact ⟨rfl, HH.out, kk.out⟩
theorem hang_r {t b g c : Nat} {s : Wd} {q n : Int} {e1 : Int} {s1 : Wd} (heq : Hid (hangU q n s = (((), e1), s1))) (hq : isW q) {w : World} (h : Tw w t b g c s) :
    Calls Try.prog 37 #[.iface 24 (.pointer (some ⟨t, 0, none⟩)), .int .u64 q, .int .u64 n] w fun e w' => e = .returned (.int .i64 e1) ∧ Tw w' t b g c s1 ∧ Keeps (two b g) w w' := by
  have q := hang_any t b g c s q n hq w h
  rw [heq.out] at q
  exact q
end Go.Proofs.Ytadbplbifjeghaa
