/-
  No statement of the seat is proved here. (Several texts in one: QuSa, QuSb, QuSc, QuSd.)
-/
import Derived.Test.YtadbplbifjeghaaQuR

/- The walk of queue's hang (layer 23). No statement of the seat is proved here. -/
namespace Go.Proofs.Ytadbplbifjeghaa
open Go.RowKit

set_option maxHeartbeats 2000000 in
theorem hang_any (t b g c : Nat) (s : Wd) (q n : Int) (hq : isW q) (w : World) (h : Tw w t b g c s) :
    Calls Try.prog 37 #[.iface 24 (.pointer (some ⟨t, 0, none⟩)), .int .u64 q, .int .u64 n] w fun e w' => e = .returned (.int .i64 (hangU q n s).1.2) ∧ Tw w' t b g c (hangU q n s).2 ∧ Keeps (two b g) w w' := by
  have mg := meth_get t
  have mp := meth_put t
  have ng := nil_get t
  have np := nil_put t
  have oks : s.Ok := h.wd.ok
  have HH := hid h
  clear h
  have hq0 : IntKind.u64.wrap q = q := uw_id hq
  have hq1 : IntKind.u64.wrap (q + 0) = q := by rw [Int.add_zero]; exact uw_id hq
  obtain ⟨⟨⟨x, e⟩, s1⟩, eq1⟩ : ∃ r, s.get (q1 q) = r := ⟨_, rfl⟩
  have hwx : isW x := get_isW eq1 oks
  have oks1 : s1.Ok := by have q := (oks.get (q1 q)).1; rw [eq1] at q; exact q
  by_cases hze : e = 0
  · subst hze
    by_cases hzx : x = 0
    · subst hzx
      obtain ⟨⟨f, s2⟩, eq2⟩ : ∃ r, s1.put (q) (uw (n + 1)) = r := ⟨_, rfl⟩
      have oks2 : s2.Ok := by have q := oks1.put (q) ((uw_isW _) : isW (uw (n + 1))); rw [eq2] at q; exact q
      by_cases hzf : f = 0
      · subst hzf
        obtain ⟨⟨f2, s3⟩, eq3⟩ : ∃ r, s2.put (q1 q) (uw (n + 1)) = r := ⟨_, rfl⟩
        have hs : hangU q n s = (((), f2), s3) := by
          unfold hangU
          simp [eq1, eq2, eq3, bnd, putU]
        rw [hs]
        have HE1 : Hid (_ = _) := eq1
        have HE2 : Hid (_ = _) := eq2
        have HE3 : Hid (_ = _) := eq3
        clear hs eq1 eq2 eq3
        have kk : Hid (Keeps (two b g) w w) := Keeps.refl _ w
        go_enter Try.func37, Try.ntmps37
        go_wp2_with fail
        have hh := HH.out
        refine (tget_r HE1 (uw_isW _) hh).mono ?_
        rintro e_ w1 ⟨rfl, h1, k1⟩
        replace HH := hid h1
        replace kk := hid (kk.out.trans k1)
        clear hh h1 k1
        go_wp2_with fail
        refine wp_region_tail 7 (by kernel_rfl) (by kernel_rfl) ?_
        simp only [List.take_succ_cons, List.take_zero, List.drop_succ_cons, List.drop_zero]
        repeat (go_big_quiet_step ((go_at_call 47; exact Calls.quiet_of_same (leadsTo_any n _))))
        refine wpQuiet_nil ?_
        intro _ hw'
        obtain ⟨nq, hw''⟩ := hw'
        subst hw''
        try simp only [World.drewN_drewN]
        replace HH := hid (HH.out.drewN nq)
        replace kk := hid (kk.out.drewN nq)
        go_wp2_with fail
        have hh := HH.out
        refine (tput_r HE2 hq (uw_isW _) hh).mono ?_
        rintro e_ w2 ⟨rfl, h2, k2⟩
        replace HH := hid h2
        replace kk := hid (kk.out.trans k2)
        clear hh h2 k2
        go_wp2_with fail
        refine wp_region_tail 8 (by kernel_rfl) (by kernel_rfl) ?_
        simp only [List.take_succ_cons, List.take_zero, List.drop_succ_cons, List.drop_zero]
        repeat (go_big_quiet_step ((go_at_call 47; exact Calls.quiet_of_same (leadsTo_any n _))))
        refine wpQuiet_nil ?_
        intro _ hw'
        obtain ⟨nq, hw''⟩ := hw'
        subst hw''
        try simp only [World.drewN_drewN]
        replace HH := hid (HH.out.drewN nq)
        replace kk := hid (kk.out.drewN nq)
        go_wp2_with fail
        have hh := HH.out
        refine (tput_r HE3 (uw_isW _) (uw_isW _) hh).mono ?_
        rintro e_ w3 ⟨rfl, h3, k3⟩
        replace HH := hid h3
        replace kk := hid (kk.out.trans k3)
        clear hh h3 k3
        go_wp2_with fail
        go_ret
        exact ⟨rfl, HH.out, kk.out⟩
      · skip
        have hs : hangU q n s = (((), f), s2) := by
          unfold hangU
          simp [eq1, eq2, hzf, bnd, putU]
        rw [hs]
        have HE1 : Hid (_ = _) := eq1
        have HE2 : Hid (_ = _) := eq2
        clear hs eq1 eq2
        have kk : Hid (Keeps (two b g) w w) := Keeps.refl _ w
        go_enter Try.func37, Try.ntmps37
        go_wp2_with fail
        have hh := HH.out
        refine (tget_r HE1 (uw_isW _) hh).mono ?_
        rintro e_ w1 ⟨rfl, h1, k1⟩
        replace HH := hid h1
        replace kk := hid (kk.out.trans k1)
        clear hh h1 k1
        go_wp2_with fail
        refine wp_region_tail 7 (by kernel_rfl) (by kernel_rfl) ?_
        simp only [List.take_succ_cons, List.take_zero, List.drop_succ_cons, List.drop_zero]
        repeat (go_big_quiet_step ((go_at_call 47; exact Calls.quiet_of_same (leadsTo_any n _))))
        refine wpQuiet_nil ?_
        intro _ hw'
        obtain ⟨nq, hw''⟩ := hw'
        subst hw''
        try simp only [World.drewN_drewN]
        replace HH := hid (HH.out.drewN nq)
        replace kk := hid (kk.out.drewN nq)
        go_wp2_with fail
        have hh := HH.out
        refine (tput_r HE2 hq (uw_isW _) hh).mono ?_
        rintro e_ w2 ⟨rfl, h2, k2⟩
        replace HH := hid h2
        replace kk := hid (kk.out.trans k2)
        clear hh h2 k2
        go_wp2_with fail
        go_ret
        exact ⟨rfl, HH.out, kk.out⟩
    · skip
      obtain ⟨⟨f, s2⟩, eq2⟩ : ∃ r, s1.put (uw (nodeA x + 1)) (uw (n + 1)) = r := ⟨_, rfl⟩
      have oks2 : s2.Ok := by have q := oks1.put (uw (nodeA x + 1)) ((uw_isW _) : isW (uw (n + 1))); rw [eq2] at q; exact q
      by_cases hzf : f = 0
      · subst hzf
        obtain ⟨⟨f2, s3⟩, eq3⟩ : ∃ r, s2.put (q1 q) (uw (n + 1)) = r := ⟨_, rfl⟩
        have hs : hangU q n s = (((), f2), s3) := by
          unfold hangU
          simp [eq1, eq2, eq3, hzx, bnd, putU]
        rw [hs]
        have HE1 : Hid (_ = _) := eq1
        have HE2 : Hid (_ = _) := eq2
        have HE3 : Hid (_ = _) := eq3
        clear hs eq1 eq2 eq3
        have kk : Hid (Keeps (two b g) w w) := Keeps.refl _ w
        go_enter Try.func37, Try.ntmps37
        go_wp2_with fail
        have hh := HH.out
        refine (tget_r HE1 (uw_isW _) hh).mono ?_
        rintro e_ w1 ⟨rfl, h1, k1⟩
        replace HH := hid h1
        replace kk := hid (kk.out.trans k1)
        clear hh h1 k1
        go_wp2_with fail
        refine (nodeOf_any x _).mono ?_
        rintro e_ w_ ⟨rfl, rfl⟩
        go_wp2_with fail
        refine wp_region_tail 7 (by kernel_rfl) (by kernel_rfl) ?_
        simp only [List.take_succ_cons, List.take_zero, List.drop_succ_cons, List.drop_zero]
        repeat (go_big_quiet_step ((go_at_call 47; exact Calls.quiet_of_same (leadsTo_any n _))))
        refine wpQuiet_nil ?_
        intro _ hw'
        obtain ⟨nq, hw''⟩ := hw'
        subst hw''
        try simp only [World.drewN_drewN]
        replace HH := hid (HH.out.drewN nq)
        replace kk := hid (kk.out.drewN nq)
        go_wp2_with fail
        have hh := HH.out
        refine (tput_r HE2 (uw_isW _) (uw_isW _) hh).mono ?_
        rintro e_ w2 ⟨rfl, h2, k2⟩
        replace HH := hid h2
        replace kk := hid (kk.out.trans k2)
        clear hh h2 k2
        go_wp2_with fail
        refine wp_region_tail 8 (by kernel_rfl) (by kernel_rfl) ?_
        simp only [List.take_succ_cons, List.take_zero, List.drop_succ_cons, List.drop_zero]
        repeat (go_big_quiet_step ((go_at_call 47; exact Calls.quiet_of_same (leadsTo_any n _))))
        refine wpQuiet_nil ?_
        intro _ hw'
        obtain ⟨nq, hw''⟩ := hw'
        subst hw''
        try simp only [World.drewN_drewN]
        replace HH := hid (HH.out.drewN nq)
        replace kk := hid (kk.out.drewN nq)
        go_wp2_with fail
        have hh := HH.out
        refine (tput_r HE3 (uw_isW _) (uw_isW _) hh).mono ?_
        rintro e_ w3 ⟨rfl, h3, k3⟩
        replace HH := hid h3
        replace kk := hid (kk.out.trans k3)
        clear hh h3 k3
        go_wp2_with fail
        go_ret
        exact ⟨rfl, HH.out, kk.out⟩
      · skip
        have hs : hangU q n s = (((), f), s2) := by
          unfold hangU
          simp [eq1, eq2, hzx, hzf, bnd, putU]
        rw [hs]
        have HE1 : Hid (_ = _) := eq1
        have HE2 : Hid (_ = _) := eq2
        clear hs eq1 eq2
        have kk : Hid (Keeps (two b g) w w) := Keeps.refl _ w
        go_enter Try.func37, Try.ntmps37
        go_wp2_with fail
        have hh := HH.out
        refine (tget_r HE1 (uw_isW _) hh).mono ?_
        rintro e_ w1 ⟨rfl, h1, k1⟩
        replace HH := hid h1
        replace kk := hid (kk.out.trans k1)
        clear hh h1 k1
        go_wp2_with fail
        refine (nodeOf_any x _).mono ?_
        rintro e_ w_ ⟨rfl, rfl⟩
        go_wp2_with fail
        refine wp_region_tail 7 (by kernel_rfl) (by kernel_rfl) ?_
        simp only [List.take_succ_cons, List.take_zero, List.drop_succ_cons, List.drop_zero]
        repeat (go_big_quiet_step ((go_at_call 47; exact Calls.quiet_of_same (leadsTo_any n _))))
        refine wpQuiet_nil ?_
        intro _ hw'
        obtain ⟨nq, hw''⟩ := hw'
        subst hw''
        try simp only [World.drewN_drewN]
        replace HH := hid (HH.out.drewN nq)
        replace kk := hid (kk.out.drewN nq)
        go_wp2_with fail
        have hh := HH.out
        refine (tput_r HE2 (uw_isW _) (uw_isW _) hh).mono ?_
        rintro e_ w2 ⟨rfl, h2, k2⟩
        replace HH := hid h2
        replace kk := hid (kk.out.trans k2)
        clear hh h2 k2
        go_wp2_with fail
        go_ret
        exact ⟨rfl, HH.out, kk.out⟩
  · skip
    have hs : hangU q n s = (((), e), s1) := by
      unfold hangU
      simp [eq1, hze, bnd]
    rw [hs]
    have HE1 : Hid (_ = _) := eq1
    clear hs eq1
    have kk : Hid (Keeps (two b g) w w) := Keeps.refl _ w
    go_enter Try.func37, Try.ntmps37
    go_wp2_with fail
    have hh := HH.out
    refine (tget_r HE1 (uw_isW _) hh).mono ?_
    rintro e_ w1 ⟨rfl, h1, k1⟩
    replace HH := hid h1
    replace kk := hid (kk.out.trans k1)
    clear hh h1 k1
    go_wp2_with fail
    go_ret
    exact ⟨rfl, HH.out, kk.out⟩
theorem hang_r {t b g c : Nat} {s : Wd} {q n : Int} {e1 : Int} {s1 : Wd} (heq : Hid (hangU q n s = (((), e1), s1))) (hq : isW q) {w : World} (h : Tw w t b g c s) :
    Calls Try.prog 37 #[.iface 24 (.pointer (some ⟨t, 0, none⟩)), .int .u64 q, .int .u64 n] w fun e w' => e = .returned (.int .i64 e1) ∧ Tw w' t b g c s1 ∧ Keeps (two b g) w w' := by
  have q := hang_any t b g c s q n hq w h
  rw [heq.out] at q
  exact q
end Go.Proofs.Ytadbplbifjeghaa


/- The walk of queue's unhang (layer 23). No statement of the seat is proved here. -/
namespace Go.Proofs.Ytadbplbifjeghaa
open Go.RowKit

set_option maxHeartbeats 2000000 in
theorem unhang0_any (t b g c : Nat) (s : Wd) (q : Int) (hq : isW q) (w : World) (h : Tw w t b g c s) :
    Calls Try.prog 41 #[.iface 24 (.pointer (some ⟨t, 0, none⟩)), .int .u64 q, .int .u64 0] w fun e w' => e = .returned (.int .i64 (unhangU q 0 s).1.2) ∧ Tw w' t b g c (unhangU q 0 s).2 ∧ Keeps (two b g) w w' := by
  have mg := meth_get t
  have mp := meth_put t
  have ng := nil_get t
  have np := nil_put t
  have oks : s.Ok := h.wd.ok
  have HH := hid h
  clear h
  have hq0 : IntKind.u64.wrap q = q := uw_id hq
  have hq1 : IntKind.u64.wrap (q + 0) = q := by rw [Int.add_zero]; exact uw_id hq
  obtain ⟨⟨e, s1⟩, eq1⟩ : ∃ r, s.put (q) (0) = r := ⟨_, rfl⟩
  have oks1 : s1.Ok := by have q := oks.put (q) (zero_isW : isW (0)); rw [eq1] at q; exact q
  by_cases hze : e = 0
  · subst hze
    obtain ⟨⟨f, s2⟩, eq2⟩ : ∃ r, s1.put (q1 q) (0) = r := ⟨_, rfl⟩
    have hs : unhangU q 0 s = (((), f), s2) := by
      unfold unhangU
      simp [eq1, eq2, bnd, putU]
    rw [hs]
    have HE1 : Hid (_ = _) := eq1
    have HE2 : Hid (_ = _) := eq2
    clear hs eq1 eq2
    have kk : Hid (Keeps (two b g) w w) := Keeps.refl _ w
    go_enter Try.func41, Try.ntmps41
    go_wp2_with fail
    have hh := HH.out
    refine (tput_r HE1 hq zero_isW hh).mono ?_
    rintro e_ w1 ⟨rfl, h1, k1⟩
    replace HH := hid h1
    replace kk := hid (kk.out.trans k1)
    clear hh h1 k1
    go_wp2_with fail
    have hh := HH.out
    refine (tput_r HE2 (uw_isW _) zero_isW hh).mono ?_
    rintro e_ w2 ⟨rfl, h2, k2⟩
    replace HH := hid h2
    replace kk := hid (kk.out.trans k2)
    clear hh h2 k2
    go_wp2_with fail
    go_ret
    exact ⟨rfl, HH.out, kk.out⟩
  · skip
    have hs : unhangU q 0 s = (((), e), s1) := by
      unfold unhangU
      simp [eq1, hze, bnd, putU]
    rw [hs]
    have HE1 : Hid (_ = _) := eq1
    clear hs eq1
    have kk : Hid (Keeps (two b g) w w) := Keeps.refl _ w
    go_enter Try.func41, Try.ntmps41
    go_wp2_with fail
    have hh := HH.out
    refine (tput_r HE1 hq zero_isW hh).mono ?_
    rintro e_ w1 ⟨rfl, h1, k1⟩
    replace HH := hid h1
    replace kk := hid (kk.out.trans k1)
    clear hh h1 k1
    go_wp2_with fail
    go_ret
    exact ⟨rfl, HH.out, kk.out⟩
set_option maxHeartbeats 2000000 in
theorem unhang1_any (t b g c : Nat) (s : Wd) (q n : Int) (hq : isW q) (hn : isW n) (hn0 : ¬ n = 0) (w : World) (h : Tw w t b g c s) :
    Calls Try.prog 41 #[.iface 24 (.pointer (some ⟨t, 0, none⟩)), .int .u64 q, .int .u64 n] w fun e w' => e = .returned (.int .i64 (unhangU q n s).1.2) ∧ Tw w' t b g c (unhangU q n s).2 ∧ Keeps (two b g) w w' := by
  have mg := meth_get t
  have mp := meth_put t
  have ng := nil_get t
  have np := nil_put t
  have oks : s.Ok := h.wd.ok
  have HH := hid h
  clear h
  have hq0 : IntKind.u64.wrap q = q := uw_id hq
  have hq1 : IntKind.u64.wrap (q + 0) = q := by rw [Int.add_zero]; exact uw_id hq
  obtain ⟨⟨e, s1⟩, eq1⟩ : ∃ r, s.put (q) (n) = r := ⟨_, rfl⟩
  have oks1 : s1.Ok := by have q := oks.put (q) (hn : isW (n)); rw [eq1] at q; exact q
  by_cases hze : e = 0
  · subst hze
    have hs : unhangU q n s = (((), 0), s1) := by
      unfold unhangU
      simp [eq1, bnd, putU, rtn, hn0]
    rw [hs]
    have HE1 : Hid (_ = _) := eq1
    clear hs eq1
    have kk : Hid (Keeps (two b g) w w) := Keeps.refl _ w
    go_enter Try.func41, Try.ntmps41
    go_wp2_with fail
    have hh := HH.out
    refine (tput_r HE1 hq hn hh).mono ?_
    rintro e_ w1 ⟨rfl, h1, k1⟩
    replace HH := hid h1
    replace kk := hid (kk.out.trans k1)
    clear hh h1 k1
    go_wp2_with fail
    go_ret
    exact ⟨rfl, HH.out, kk.out⟩
  · skip
    have hs : unhangU q n s = (((), e), s1) := by
      unfold unhangU
      simp [eq1, hze, bnd, putU]
    rw [hs]
    have HE1 : Hid (_ = _) := eq1
    clear hs eq1
    have kk : Hid (Keeps (two b g) w w) := Keeps.refl _ w
    go_enter Try.func41, Try.ntmps41
    go_wp2_with fail
    have hh := HH.out
    refine (tput_r HE1 hq hn hh).mono ?_
    rintro e_ w1 ⟨rfl, h1, k1⟩
    replace HH := hid h1
    replace kk := hid (kk.out.trans k1)
    clear hh h1 k1
    go_wp2_with fail
    go_ret
    exact ⟨rfl, HH.out, kk.out⟩
theorem unhang_any (t b g c : Nat) (s : Wd) (q n : Int) (hq : isW q) (hn : isW n) (w : World) (h : Tw w t b g c s) :
    Calls Try.prog 41 #[.iface 24 (.pointer (some ⟨t, 0, none⟩)), .int .u64 q, .int .u64 n] w fun e w' => e = .returned (.int .i64 (unhangU q n s).1.2) ∧ Tw w' t b g c (unhangU q n s).2 ∧ Keeps (two b g) w w' := by
  by_cases hn0 : n = 0
  · subst hn0
    exact unhang0_any t b g c s q hq w h
  · exact unhang1_any t b g c s q n hq hn hn0 w h
theorem unhang_r {t b g c : Nat} {s : Wd} {q n : Int} {e1 : Int} {s1 : Wd} (heq : Hid (unhangU q n s = (((), e1), s1))) (hq : isW q) (hn : isW n) {w : World} (h : Tw w t b g c s) :
    Calls Try.prog 41 #[.iface 24 (.pointer (some ⟨t, 0, none⟩)), .int .u64 q, .int .u64 n] w fun e w' => e = .returned (.int .i64 e1) ∧ Tw w' t b g c s1 ∧ Keeps (two b g) w w' := by
  have q := unhang_any t b g c s q n hq hn w h
  rw [heq.out] at q
  exact q
end Go.Proofs.Ytadbplbifjeghaa


/- The walks of queue's recount and Len (layer 23). No statement of the seat is proved here. -/
namespace Go.Proofs.Ytadbplbifjeghaa
open Go.RowKit

set_option maxHeartbeats 2000000 in
theorem recount_any (t b g c : Nat) (s : Wd) (q m : Int)  (w : World) (h : Tw w t b g c s) :
    Calls Try.prog 38 #[.iface 24 (.pointer (some ⟨t, 0, none⟩)), .int .u64 q, .int .u64 m] w fun e w' => e = .returned (.int .i64 (recountU q m s).1.2) ∧ Tw w' t b g c (recountU q m s).2 ∧ Keeps (two b g) w w' := by
  have mg := meth_get t
  have mp := meth_put t
  have ng := nil_get t
  have np := nil_put t
  have oks : s.Ok := h.wd.ok
  have HH := hid h
  clear h
  obtain ⟨⟨⟨x, e⟩, s1⟩, eq1⟩ : ∃ r, s.get (q2 q) = r := ⟨_, rfl⟩
  have hwx : isW x := get_isW eq1 oks
  have oks1 : s1.Ok := by have q := (oks.get (q2 q)).1; rw [eq1] at q; exact q
  by_cases hze : e = 0
  · subst hze
    obtain ⟨⟨f, s2⟩, eq2⟩ : ∃ r, s1.put (q2 q) (uw (x + m)) = r := ⟨_, rfl⟩
    have hs : recountU q m s = (((), f), s2) := by
      unfold recountU
      simp [eq1, eq2, bnd, putU]
    rw [hs]
    have HE1 : Hid (_ = _) := eq1
    have HE2 : Hid (_ = _) := eq2
    clear hs eq1 eq2
    have kk : Hid (Keeps (two b g) w w) := Keeps.refl _ w
    go_enter Try.func38, Try.ntmps38
    go_wp2_with fail
    have hh := HH.out
    refine (tget_r HE1 (uw_isW _) hh).mono ?_
    rintro e_ w1 ⟨rfl, h1, k1⟩
    replace HH := hid h1
    replace kk := hid (kk.out.trans k1)
    clear hh h1 k1
    go_wp2_with fail
    have hh := HH.out
    refine (tput_r HE2 (uw_isW _) (uw_isW _) hh).mono ?_
    rintro e_ w2 ⟨rfl, h2, k2⟩
    replace HH := hid h2
    replace kk := hid (kk.out.trans k2)
    clear hh h2 k2
    go_wp2_with fail
    go_ret
    exact ⟨rfl, HH.out, kk.out⟩
  · skip
    have hs : recountU q m s = (((), e), s1) := by
      unfold recountU
      simp [eq1, hze, bnd]
    rw [hs]
    have HE1 : Hid (_ = _) := eq1
    clear hs eq1
    have kk : Hid (Keeps (two b g) w w) := Keeps.refl _ w
    go_enter Try.func38, Try.ntmps38
    go_wp2_with fail
    have hh := HH.out
    refine (tget_r HE1 (uw_isW _) hh).mono ?_
    rintro e_ w1 ⟨rfl, h1, k1⟩
    replace HH := hid h1
    replace kk := hid (kk.out.trans k1)
    clear hh h1 k1
    go_wp2_with fail
    go_ret
    exact ⟨rfl, HH.out, kk.out⟩
theorem recount_r {t b g c : Nat} {s : Wd} {q m : Int} {e1 : Int} {s1 : Wd} (heq : Hid (recountU q m s = (((), e1), s1)))  {w : World} (h : Tw w t b g c s) :
    Calls Try.prog 38 #[.iface 24 (.pointer (some ⟨t, 0, none⟩)), .int .u64 q, .int .u64 m] w fun e w' => e = .returned (.int .i64 e1) ∧ Tw w' t b g c s1 ∧ Keeps (two b g) w w' := by
  have q := recount_any t b g c s q m  w h
  rw [heq.out] at q
  exact q
set_option maxHeartbeats 2000000 in
theorem qlen_any (t b g c : Nat) (s : Wd) (q : Int)  (w : World) (h : Tw w t b g c s) :
    Calls Try.prog 26 #[.iface 24 (.pointer (some ⟨t, 0, none⟩)), .int .u64 q] w fun e w' => e = .returned (.tuple #[.int .u64 (Wd.qlen q s).1.1, .int .i64 (Wd.qlen q s).1.2]) ∧ Tw w' t b g c (Wd.qlen q s).2 ∧ Keeps (two b g) w w' := by
  have mg := meth_get t
  have mp := meth_put t
  have ng := nil_get t
  have np := nil_put t
  have oks : s.Ok := h.wd.ok
  have HH := hid h
  clear h
  obtain ⟨⟨⟨x, e⟩, s1⟩, eq1⟩ : ∃ r, s.get (q2 q) = r := ⟨_, rfl⟩
  have hwx : isW x := get_isW eq1 oks
  have oks1 : s1.Ok := by have q := (oks.get (q2 q)).1; rw [eq1] at q; exact q
  by_cases hze : e = 0
  · subst hze
    have hs : Wd.qlen q s = ((x, 0), s1) := by
      unfold Wd.qlen
      simp [eq1, bnd, rtn]
    rw [hs]
    have HE1 : Hid (_ = _) := eq1
    clear hs eq1
    have kk : Hid (Keeps (two b g) w w) := Keeps.refl _ w
    go_enter Try.func26, Try.ntmps26
    go_wp2_with fail
    have hh := HH.out
    refine (tget_r HE1 (uw_isW _) hh).mono ?_
    rintro e_ w1 ⟨rfl, h1, k1⟩
    replace HH := hid h1
    replace kk := hid (kk.out.trans k1)
    clear hh h1 k1
    go_wp2_with fail
    go_ret2
    exact ⟨rfl, HH.out, kk.out⟩
  · skip
    have hs : Wd.qlen q s = ((0, e), s1) := by
      unfold Wd.qlen
      simp [eq1, hze, bnd]
    rw [hs]
    have HE1 : Hid (_ = _) := eq1
    clear hs eq1
    have kk : Hid (Keeps (two b g) w w) := Keeps.refl _ w
    go_enter Try.func26, Try.ntmps26
    go_wp2_with fail
    have hh := HH.out
    refine (tget_r HE1 (uw_isW _) hh).mono ?_
    rintro e_ w1 ⟨rfl, h1, k1⟩
    replace HH := hid h1
    replace kk := hid (kk.out.trans k1)
    clear hh h1 k1
    go_wp2_with fail
    go_ret2
    exact ⟨rfl, HH.out, kk.out⟩
theorem qlen_r {t b g c : Nat} {s : Wd} {q : Int} {x1 e1 : Int} {s1 : Wd} (heq : Hid (Wd.qlen q s = ((x1, e1), s1)))  {w : World} (h : Tw w t b g c s) :
    Calls Try.prog 26 #[.iface 24 (.pointer (some ⟨t, 0, none⟩)), .int .u64 q] w fun e w' => e = .returned (.tuple #[.int .u64 x1, .int .i64 e1]) ∧ Tw w' t b g c s1 ∧ Keeps (two b g) w w' := by
  have q := qlen_any t b g c s q  w h
  rw [heq.out] at q
  exact q
end Go.Proofs.Ytadbplbifjeghaa


/- The walk of queue's First (layer 23). No statement of the seat is proved here. -/
namespace Go.Proofs.Ytadbplbifjeghaa
open Go.RowKit

set_option maxHeartbeats 2000000 in
theorem qfirst_any (t b g c : Nat) (s : Wd) (q : Int) (hq : isW q) (w : World) (h : Tw w t b g c s) :
    Calls Try.prog 25 #[.iface 24 (.pointer (some ⟨t, 0, none⟩)), .int .u64 q] w fun e w' => e = .returned (.tuple #[.int .u64 (Wd.qfirst q s).1.1.1, .bool (Wd.qfirst q s).1.1.2, .int .i64 (Wd.qfirst q s).1.2]) ∧ Tw w' t b g c (Wd.qfirst q s).2 ∧ Keeps (two b g) w w' := by
  have mg := meth_get t
  have mp := meth_put t
  have ng := nil_get t
  have np := nil_put t
  have oks : s.Ok := h.wd.ok
  have HH := hid h
  clear h
  have hq0 : IntKind.u64.wrap q = q := uw_id hq
  have hq1 : IntKind.u64.wrap (q + 0) = q := by rw [Int.add_zero]; exact uw_id hq
  have hn0 : ∀ x, IntKind.u64.wrap (nodeA x) = nodeA x := fun x => uw_id (uw_isW _)
  have hn1 : ∀ x, IntKind.u64.wrap (nodeA x + 0) = nodeA x := fun x => by rw [Int.add_zero]; exact uw_id (uw_isW _)
  obtain ⟨⟨⟨x, e⟩, s1⟩, eq1⟩ : ∃ r, s.get (q) = r := ⟨_, rfl⟩
  have hwx : isW x := get_isW eq1 oks
  have oks1 : s1.Ok := by have q := (oks.get (q)).1; rw [eq1] at q; exact q
  by_cases hze : e = 0
  · subst hze
    by_cases hzx : x = 0
    · subst hzx
      have hs : Wd.qfirst q s = (((0, false), 0), s1) := by
        unfold Wd.qfirst
        simp [eq1, bnd, rtn]
      rw [hs]
      have HE1 : Hid (_ = _) := eq1
      clear hs eq1
      have kk : Hid (Keeps (two b g) w w) := Keeps.refl _ w
      go_enter Try.func25, Try.ntmps25
      go_wp2_with fail
      have hh := HH.out
      refine (tget_r HE1 hq hh).mono ?_
      rintro e_ w1 ⟨rfl, h1, k1⟩
      replace HH := hid h1
      replace kk := hid (kk.out.trans k1)
      clear hh h1 k1
      go_wp2_with fail
      go_ret3
      exact ⟨rfl, HH.out, kk.out⟩
    · skip
      obtain ⟨⟨⟨y, f⟩, s2⟩, eq2⟩ : ∃ r, s1.get (nodeA x) = r := ⟨_, rfl⟩
      have hwy : isW y := get_isW eq2 oks1
      have oks2 : s2.Ok := by have q := (oks1.get (nodeA x)).1; rw [eq2] at q; exact q
      by_cases hzf : f = 0
      · subst hzf
        have hs : Wd.qfirst q s = (((y, true), 0), s2) := by
          unfold Wd.qfirst
          simp [eq1, eq2, hzx, bnd, rtn]
        rw [hs]
        have HE1 : Hid (_ = _) := eq1
        have HE2 : Hid (_ = _) := eq2
        clear hs eq1 eq2
        have kk : Hid (Keeps (two b g) w w) := Keeps.refl _ w
        go_enter Try.func25, Try.ntmps25
        go_wp2_with fail
        have hh := HH.out
        refine (tget_r HE1 hq hh).mono ?_
        rintro e_ w1 ⟨rfl, h1, k1⟩
        replace HH := hid h1
        replace kk := hid (kk.out.trans k1)
        clear hh h1 k1
        go_wp2_with fail
        have HT : Hid (∀ X : World, X.heap = w1.heap → X.os = w1.os → X.tape = w1.tape → X.output = w1.output → Calls Try.prog 65 #[.pointer (some ⟨t, 0, none⟩), .int .u64 (nodeA x)] X fun r w' => r = .returned _ ∧ Tw w' t b g c s2 ∧ Keeps (two b g) w w') := fun X e1 e2 e3 e4 => ((tget_r HE2 (uw_isW _) (HH.out.like e1)).mono fun r w' hq => ⟨hq.1, hq.2.1, (kk.out.like e1 e2 e3 e4).trans hq.2.2⟩)
        clear HH kk
        go_region_held3 (fun _ : World => True) (trivial) ((first | (go_at_call 40; refine (nodeOf_any x _).mono ?_; rintro e_ w_ ⟨rfl, rfl⟩) | (go_at_call 65; refine (HT.out _ (by exact rfl) (by exact rfl) (by exact rfl) (by exact rfl)).mono ?_; rintro e_ w2 ⟨rfl, h2, k2⟩)))
        all_goals have HH := hid h2
        all_goals have kk := hid k2
        all_goals clear HT h2 k2
        all_goals go_wp2_with fail
        all_goals go_ret3
        all_goals exact ⟨rfl, HH.out, kk.out⟩
      · skip
        have hs : Wd.qfirst q s = (((0, false), f), s2) := by
          unfold Wd.qfirst
          simp [eq1, eq2, hzx, hzf, bnd]
        rw [hs]
        have HE1 : Hid (_ = _) := eq1
        have HE2 : Hid (_ = _) := eq2
        clear hs eq1 eq2
        have kk : Hid (Keeps (two b g) w w) := Keeps.refl _ w
        go_enter Try.func25, Try.ntmps25
        go_wp2_with fail
        have hh := HH.out
        refine (tget_r HE1 hq hh).mono ?_
        rintro e_ w1 ⟨rfl, h1, k1⟩
        replace HH := hid h1
        replace kk := hid (kk.out.trans k1)
        clear hh h1 k1
        go_wp2_with fail
        have HT : Hid (∀ X : World, X.heap = w1.heap → X.os = w1.os → X.tape = w1.tape → X.output = w1.output → Calls Try.prog 65 #[.pointer (some ⟨t, 0, none⟩), .int .u64 (nodeA x)] X fun r w' => r = .returned _ ∧ Tw w' t b g c s2 ∧ Keeps (two b g) w w') := fun X e1 e2 e3 e4 => ((tget_r HE2 (uw_isW _) (HH.out.like e1)).mono fun r w' hq => ⟨hq.1, hq.2.1, (kk.out.like e1 e2 e3 e4).trans hq.2.2⟩)
        clear HH kk
        go_region_held3 (fun _ : World => True) (trivial) ((first | (go_at_call 40; refine (nodeOf_any x _).mono ?_; rintro e_ w_ ⟨rfl, rfl⟩) | (go_at_call 65; refine (HT.out _ (by exact rfl) (by exact rfl) (by exact rfl) (by exact rfl)).mono ?_; rintro e_ w2 ⟨rfl, h2, k2⟩)))
        all_goals have HH := hid h2
        all_goals have kk := hid k2
        all_goals clear HT h2 k2
        all_goals go_wp2_with fail
        all_goals go_ret3
        all_goals exact ⟨rfl, HH.out, kk.out⟩
  · skip
    have hs : Wd.qfirst q s = (((0, false), e), s1) := by
      unfold Wd.qfirst
      simp [eq1, hze, bnd]
    rw [hs]
    have HE1 : Hid (_ = _) := eq1
    clear hs eq1
    have kk : Hid (Keeps (two b g) w w) := Keeps.refl _ w
    go_enter Try.func25, Try.ntmps25
    go_wp2_with fail
    have hh := HH.out
    refine (tget_r HE1 hq hh).mono ?_
    rintro e_ w1 ⟨rfl, h1, k1⟩
    replace HH := hid h1
    replace kk := hid (kk.out.trans k1)
    clear hh h1 k1
    go_wp2_with fail
    go_ret3
    exact ⟨rfl, HH.out, kk.out⟩
theorem qfirst_r {t b g c : Nat} {s : Wd} {q : Int} {x1 : Int} {b1 : Bool} {e1 : Int} {s1 : Wd} (heq : Hid (Wd.qfirst q s = (((x1, b1), e1), s1))) (hq : isW q) {w : World} (h : Tw w t b g c s) :
    Calls Try.prog 25 #[.iface 24 (.pointer (some ⟨t, 0, none⟩)), .int .u64 q] w fun e w' => e = .returned (.tuple #[.int .u64 x1, .bool b1, .int .i64 e1]) ∧ Tw w' t b g c s1 ∧ Keeps (two b g) w w' := by
  have q := qfirst_any t b g c s q hq w h
  rw [heq.out] at q
  exact q
end Go.Proofs.Ytadbplbifjeghaa
