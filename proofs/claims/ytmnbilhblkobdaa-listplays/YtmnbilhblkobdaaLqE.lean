
/- The walk of Insert (layer 21). No statement of the seat is proved here. -/
import Derived.Test.YtmnbilhblkobdaaLqD
namespace Go.Proofs.Ytmnbilhblkobdaa
open Go.RowKit

set_option maxHeartbeats 1000000 in
theorem insert_any (b g c : Nat) (s : Wd) (r l key : Int) (hr : isW r) (hl : isW l) (hkey : isW key) (hce : s.c ≠ 0 ∨ s.f < 0) (w : World) (h : WdAt w b g c s) :
    Calls Try.prog 17 #[.iface 24 (.pointer (some ⟨b, 0, none⟩)), .int .u64 r, .int .u64 l, .int .u64 key] w fun e w' => e = .returned (.tuple #[.bool (s.insert r l key).1.1, .int .i64 (s.insert r l key).1.2]) ∧ WdAt w' b g c (s.insert r l key).2 ∧ Keeps (two b g) w w' := by
  have mg := meth_get b
  have mp := meth_put b
  have ng := nil_get b
  have np := nil_put b
  have oks : s.Ok := h.ok
  have HH := hid (Hs.start h)
  clear h
  obtain ⟨⟨⟨⟨tl, tn, tk⟩, e⟩, s1⟩, eq1⟩ : ∃ r, s.seek l key = r := ⟨_, rfl⟩
  obtain ⟨ht, oks1, _, _⟩ := oks.seek eq1
  by_cases hze : e = 0
  · subst hze
    cases hhk : Sp.has ⟨tl, tn, tk⟩ key with
    | true =>
      have hs : s.insert r l key = ((false, 0), s1) := by
        unfold Wd.insert
        simp [eq1, hhk]
      rw [hs]
      have HE1 : Hid (_ = _) := eq1
      clear hs eq1
      go_enter Try.func17, Try.ntmps17
      go_wp2_with fail
      have hh := HH.out
      refine (seek_r HE1 hce hh.wd).mono ?_
      rintro e_ w1 ⟨rfl, h1, k1⟩
      replace HH := hid ((hh.acc k1 h1).spot ⟨tl, tn, tk⟩)
      clear hh h1 k1
      unfold Sp.v
      go_wp2_with fail
      have hh := HH.out
      refine (has_any ⟨tl, tn, tk⟩ key _).mono ?_
      rintro e_ w2 ⟨rfl, k2⟩
      replace HH := hid (hh.new k2)
      clear hh k2
      simp only [hhk]
      go_wp2_with fail
      go_ret2
      exact ⟨rfl, HH.out.hs.wd, HH.out.hs.k⟩
    | false =>
      obtain ⟨⟨⟨x, f⟩, s2⟩, eq2⟩ : ∃ r_, s1.take r 2 = r_ := ⟨_, rfl⟩
      have hwx : isW x := by have q := take_isW oks1 r 2; rw [eq2] at q; exact q
      by_cases hzf : f = 0
      · subst hzf
        obtain ⟨⟨f2, s3⟩, eq3⟩ : ∃ r_, s2.hang ⟨tl, tn, tk⟩ x key = r_ := ⟨_, rfl⟩
        by_cases hzf2 : f2 = 0
        · subst hzf2
          obtain ⟨⟨f3, s4⟩, eq4⟩ : ∃ r_, s3.recount l 1 = r_ := ⟨_, rfl⟩
          by_cases hzf3 : f3 = 0
          · subst hzf3
            have hs : s.insert r l key = ((true, 0), s4) := by
              unfold Wd.insert
              simp [eq1, eq2, eq3, eq4, hhk]
            rw [hs]
            have HE1 : Hid (_ = _) := eq1
            have HE2 : Hid (_ = _) := eq2
            have HE3 : Hid (_ = _) := eq3
            have HE4 : Hid (_ = _) := eq4
            clear hs eq1 eq2 eq3 eq4
            go_enter Try.func17, Try.ntmps17
            go_wp2_with fail
            have hh := HH.out
            refine (seek_r HE1 hce hh.wd).mono ?_
            rintro e_ w1 ⟨rfl, h1, k1⟩
            replace HH := hid ((hh.acc k1 h1).spot ⟨tl, tn, tk⟩)
            clear hh h1 k1
            unfold Sp.v
            go_wp2_with fail
            have hh := HH.out
            refine (has_any ⟨tl, tn, tk⟩ key _).mono ?_
            rintro e_ w2 ⟨rfl, k2⟩
            replace HH := hid (hh.new k2)
            clear hh k2
            simp only [hhk]
            go_wp2_with fail
            have hh := HH.out
            refine (take_r HE2 hr hh.hs.wd).mono ?_
            rintro e_ w3 ⟨rfl, h3, k3⟩
            replace HH := hid (hh.acc k3 h3)
            clear hh h3 k3
            have q0 := HH.out.sp.c0
            have q1 := HH.out.sp.c1
            have q2 := HH.out.sp.c2
            go_wp2_with fail
            have hh := HH.out
            refine (hang_r (t := ⟨tl, tn, tk⟩) HE3 ht hwx hkey hh.hs.wd).mono ?_
            rintro e_ w4 ⟨rfl, h4, k4⟩
            replace HH := hid (hh.acc k4 h4)
            clear hh h4 k4
            clear q0 q1 q2
            go_wp2_with fail
            have hh := HH.out
            refine (recount_r HE4 hl hh.hs.wd).mono ?_
            rintro e_ w5 ⟨rfl, h5, k5⟩
            replace HH := hid (hh.acc k5 h5)
            clear hh h5 k5
            go_wp2_with fail
            go_ret2
            exact ⟨rfl, HH.out.hs.wd, HH.out.hs.k⟩
          · skip
            have hs : s.insert r l key = ((false, f3), s4) := by
              unfold Wd.insert
              simp [eq1, eq2, eq3, eq4, hhk, hzf3]
            rw [hs]
            have HE1 : Hid (_ = _) := eq1
            have HE2 : Hid (_ = _) := eq2
            have HE3 : Hid (_ = _) := eq3
            have HE4 : Hid (_ = _) := eq4
            clear hs eq1 eq2 eq3 eq4
            go_enter Try.func17, Try.ntmps17
            go_wp2_with fail
            have hh := HH.out
            refine (seek_r HE1 hce hh.wd).mono ?_
            rintro e_ w1 ⟨rfl, h1, k1⟩
            replace HH := hid ((hh.acc k1 h1).spot ⟨tl, tn, tk⟩)
            clear hh h1 k1
            unfold Sp.v
            go_wp2_with fail
            have hh := HH.out
            refine (has_any ⟨tl, tn, tk⟩ key _).mono ?_
            rintro e_ w2 ⟨rfl, k2⟩
            replace HH := hid (hh.new k2)
            clear hh k2
            simp only [hhk]
            go_wp2_with fail
            have hh := HH.out
            refine (take_r HE2 hr hh.hs.wd).mono ?_
            rintro e_ w3 ⟨rfl, h3, k3⟩
            replace HH := hid (hh.acc k3 h3)
            clear hh h3 k3
            have q0 := HH.out.sp.c0
            have q1 := HH.out.sp.c1
            have q2 := HH.out.sp.c2
            go_wp2_with fail
            have hh := HH.out
            refine (hang_r (t := ⟨tl, tn, tk⟩) HE3 ht hwx hkey hh.hs.wd).mono ?_
            rintro e_ w4 ⟨rfl, h4, k4⟩
            replace HH := hid (hh.acc k4 h4)
            clear hh h4 k4
            clear q0 q1 q2
            go_wp2_with fail
            have hh := HH.out
            refine (recount_r HE4 hl hh.hs.wd).mono ?_
            rintro e_ w5 ⟨rfl, h5, k5⟩
            replace HH := hid (hh.acc k5 h5)
            clear hh h5 k5
            go_wp2_with fail
            go_ret2
            refine ⟨?_, HH.out.hs.wd, HH.out.hs.k⟩
            simp [hzf3]
        · skip
          have hs : s.insert r l key = ((false, f2), s3) := by
            unfold Wd.insert
            simp [eq1, eq2, eq3, hhk, hzf2]
          rw [hs]
          have HE1 : Hid (_ = _) := eq1
          have HE2 : Hid (_ = _) := eq2
          have HE3 : Hid (_ = _) := eq3
          clear hs eq1 eq2 eq3
          go_enter Try.func17, Try.ntmps17
          go_wp2_with fail
          have hh := HH.out
          refine (seek_r HE1 hce hh.wd).mono ?_
          rintro e_ w1 ⟨rfl, h1, k1⟩
          replace HH := hid ((hh.acc k1 h1).spot ⟨tl, tn, tk⟩)
          clear hh h1 k1
          unfold Sp.v
          go_wp2_with fail
          have hh := HH.out
          refine (has_any ⟨tl, tn, tk⟩ key _).mono ?_
          rintro e_ w2 ⟨rfl, k2⟩
          replace HH := hid (hh.new k2)
          clear hh k2
          simp only [hhk]
          go_wp2_with fail
          have hh := HH.out
          refine (take_r HE2 hr hh.hs.wd).mono ?_
          rintro e_ w3 ⟨rfl, h3, k3⟩
          replace HH := hid (hh.acc k3 h3)
          clear hh h3 k3
          have q0 := HH.out.sp.c0
          have q1 := HH.out.sp.c1
          have q2 := HH.out.sp.c2
          go_wp2_with fail
          have hh := HH.out
          refine (hang_r (t := ⟨tl, tn, tk⟩) HE3 ht hwx hkey hh.hs.wd).mono ?_
          rintro e_ w4 ⟨rfl, h4, k4⟩
          replace HH := hid (hh.acc k4 h4)
          clear hh h4 k4
          clear q0 q1 q2
          go_wp2_with fail
          go_ret2
          refine ⟨?_, HH.out.hs.wd, HH.out.hs.k⟩
          simp
      · skip
        have hs : s.insert r l key = ((false, f), s2) := by
          unfold Wd.insert
          simp [eq1, eq2, hhk, hzf]
        rw [hs]
        have HE1 : Hid (_ = _) := eq1
        have HE2 : Hid (_ = _) := eq2
        clear hs eq1 eq2
        go_enter Try.func17, Try.ntmps17
        go_wp2_with fail
        have hh := HH.out
        refine (seek_r HE1 hce hh.wd).mono ?_
        rintro e_ w1 ⟨rfl, h1, k1⟩
        replace HH := hid ((hh.acc k1 h1).spot ⟨tl, tn, tk⟩)
        clear hh h1 k1
        unfold Sp.v
        go_wp2_with fail
        have hh := HH.out
        refine (has_any ⟨tl, tn, tk⟩ key _).mono ?_
        rintro e_ w2 ⟨rfl, k2⟩
        replace HH := hid (hh.new k2)
        clear hh k2
        simp only [hhk]
        go_wp2_with fail
        have hh := HH.out
        refine (take_r HE2 hr hh.hs.wd).mono ?_
        rintro e_ w3 ⟨rfl, h3, k3⟩
        replace HH := hid (hh.acc k3 h3)
        clear hh h3 k3
        go_wp2_with fail
        go_ret2
        refine ⟨?_, HH.out.hs.wd, HH.out.hs.k⟩
        simp
  · skip
    have hs : s.insert r l key = ((false, e), s1) := by
      unfold Wd.insert
      simp [eq1, hze]
    rw [hs]
    have HE1 : Hid (_ = _) := eq1
    clear hs eq1
    go_enter Try.func17, Try.ntmps17
    go_wp2_with fail
    have hh := HH.out
    refine (seek_r HE1 hce hh.wd).mono ?_
    rintro e_ w1 ⟨rfl, h1, k1⟩
    replace HH := hid ((hh.acc k1 h1).spot ⟨tl, tn, tk⟩)
    clear hh h1 k1
    unfold Sp.v
    go_wp2_with fail
    go_ret2
    exact ⟨rfl, HH.out.hs.wd, HH.out.hs.k⟩
theorem insert_r {b g c : Nat} {s : Wd} {r l key : Int} {x1 : Bool} {e1 : Int} {s1 : Wd} (heq : Hid (s.insert r l key = ((x1, e1), s1))) (hr : isW r) (hl : isW l) (hkey : isW key) (hce : s.c ≠ 0 ∨ s.f < 0) {w : World} (h : WdAt w b g c s) :
    Calls Try.prog 17 #[.iface 24 (.pointer (some ⟨b, 0, none⟩)), .int .u64 r, .int .u64 l, .int .u64 key] w fun e w' => e = .returned (.tuple #[.bool x1, .int .i64 e1]) ∧ WdAt w' b g c s1 ∧ Keeps (two b g) w w' := by
  have q := insert_any b g c s r l key hr hl hkey hce w h
  rw [heq.out] at q
  exact q
end Go.Proofs.Ytmnbilhblkobdaa
