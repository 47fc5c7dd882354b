
/- The walk of queue's Put (layer 23). No statement of the seat is proved here. -/
import Derived.Test.YtadbplbifjeghaaQuT
namespace Go.Proofs.Ytadbplbifjeghaa
open Go.RowKit

set_option maxRecDepth 100000 in
set_option maxHeartbeats 2000000 in
theorem qpush_any (t b g c : Nat) (s : Wd) (r q x : Int) (hr : isW r) (hq : isW q) (hx : isW x) (w : World) (h : Tw w t b g c s) :
    Calls Try.prog 21 #[.iface 24 (.pointer (some ⟨t, 0, none⟩)), .int .u64 r, .int .u64 q, .int .u64 x] w fun e w' => e = .returned (.int .i64 (Wd.qput r q x s).1.2) ∧ Tw w' t b g c (Wd.qput r q x s).2 ∧ Keeps (two b g) w w' := by
  have HH := hid h
  have oks : s.Ok := h.wd.ok
  clear h
  obtain ⟨⟨⟨n, e⟩, s1⟩, eq1⟩ : ∃ rr, (s).take r 2 = rr := ⟨_, rfl⟩
  have hwn : isW n := by have p := take_isW oks r 2; rw [eq1] at p; exact p
  by_cases he1 : e = 0
  · subst he1
    obtain ⟨⟨⟨⟨⟩, e⟩, s2⟩, eq2⟩ : ∃ rr, putsU n [x, 0] s1 = rr := ⟨_, rfl⟩
    by_cases he2 : e = 0
    · subst he2
      obtain ⟨⟨⟨⟨⟩, e⟩, s3⟩, eq3⟩ : ∃ rr, hangU q n s2 = rr := ⟨_, rfl⟩
      by_cases he3 : e = 0
      · subst he3
        obtain ⟨⟨⟨⟨⟩, e⟩, s4⟩, eq4⟩ : ∃ rr, recountU q 1 s3 = rr := ⟨_, rfl⟩
        by_cases he4 : e = 0
        · subst he4
          have hs : Wd.qput r q x s = (((), 0), s4) := by
            unfold Wd.qput
            simp [bnd, eq1, eq2, eq3, eq4]
          rw [hs]
          have HE1 : Hid (_ = _) := eq1
          have HE2 : Hid (_ = _) := eq2
          have HE3 : Hid (_ = _) := eq3
          have HE4 : Hid (_ = _) := eq4
          clear hs eq1 eq2 eq3 eq4
          have kk : Hid (Keeps (two b g) w w) := Keeps.refl _ w
          go_enter Try.func21, Try.ntmps21
          go_wp2_with fail
          have hh := HH.out
          refine (take_r HE1 hr hh).mono ?_
          rintro e_ w1 ⟨rfl, h1, k1⟩
          replace HH := hid h1
          replace kk := hid (kk.out.trans k1)
          clear hh h1 k1
          go_wp2_with fail
          have hh := HH.out
          refine (qput_laid [x, 0] HE2 hwn (fun i => by match i with | 0 => exact hx | 1 => exact zero_isW | (k + 2) => exact zero_isW) (by simp) hh).mono ?_
          rintro e_ w2 ⟨rfl, h2, k2⟩
          replace HH := hid h2
          replace kk := hid (kk.out.trans k2)
          clear hh h2 k2
          go_wp2_with fail
          have hh := HH.out
          refine (hang_r HE3 hq hh).mono ?_
          rintro e_ w3 ⟨rfl, h3, k3⟩
          replace HH := hid h3
          replace kk := hid (kk.out.trans k3)
          clear hh h3 k3
          go_wp2_with fail
          have hh := HH.out
          refine (recount_r HE4  hh).mono ?_
          rintro e_ w4 ⟨rfl, h4, k4⟩
          replace HH := hid h4
          replace kk := hid (kk.out.trans k4)
          clear hh h4 k4
          go_wp2_with fail
          go_ret
          exact ⟨rfl, HH.out, kk.out⟩
        · have hs : Wd.qput r q x s = (((), e), s4) := by
            unfold Wd.qput
            simp [bnd, eq1, eq2, eq3, eq4]
          rw [hs]
          have HE1 : Hid (_ = _) := eq1
          have HE2 : Hid (_ = _) := eq2
          have HE3 : Hid (_ = _) := eq3
          have HE4 : Hid (_ = _) := eq4
          clear hs eq1 eq2 eq3 eq4
          have kk : Hid (Keeps (two b g) w w) := Keeps.refl _ w
          go_enter Try.func21, Try.ntmps21
          go_wp2_with fail
          have hh := HH.out
          refine (take_r HE1 hr hh).mono ?_
          rintro e_ w1 ⟨rfl, h1, k1⟩
          replace HH := hid h1
          replace kk := hid (kk.out.trans k1)
          clear hh h1 k1
          go_wp2_with fail
          have hh := HH.out
          refine (qput_laid [x, 0] HE2 hwn (fun i => by match i with | 0 => exact hx | 1 => exact zero_isW | (k + 2) => exact zero_isW) (by simp) hh).mono ?_
          rintro e_ w2 ⟨rfl, h2, k2⟩
          replace HH := hid h2
          replace kk := hid (kk.out.trans k2)
          clear hh h2 k2
          go_wp2_with fail
          have hh := HH.out
          refine (hang_r HE3 hq hh).mono ?_
          rintro e_ w3 ⟨rfl, h3, k3⟩
          replace HH := hid h3
          replace kk := hid (kk.out.trans k3)
          clear hh h3 k3
          go_wp2_with fail
          have hh := HH.out
          refine (recount_r HE4  hh).mono ?_
          rintro e_ w4 ⟨rfl, h4, k4⟩
          replace HH := hid h4
          replace kk := hid (kk.out.trans k4)
          clear hh h4 k4
          go_wp2_with fail
          go_ret
          exact ⟨rfl, HH.out, kk.out⟩
      · have hs : Wd.qput r q x s = (((), e), s3) := by
          unfold Wd.qput
          simp [bnd, eq1, eq2, eq3, he3]
        rw [hs]
        have HE1 : Hid (_ = _) := eq1
        have HE2 : Hid (_ = _) := eq2
        have HE3 : Hid (_ = _) := eq3
        clear hs eq1 eq2 eq3
        have kk : Hid (Keeps (two b g) w w) := Keeps.refl _ w
        go_enter Try.func21, Try.ntmps21
        go_wp2_with fail
        have hh := HH.out
        refine (take_r HE1 hr hh).mono ?_
        rintro e_ w1 ⟨rfl, h1, k1⟩
        replace HH := hid h1
        replace kk := hid (kk.out.trans k1)
        clear hh h1 k1
        go_wp2_with fail
        have hh := HH.out
        refine (qput_laid [x, 0] HE2 hwn (fun i => by match i with | 0 => exact hx | 1 => exact zero_isW | (k + 2) => exact zero_isW) (by simp) hh).mono ?_
        rintro e_ w2 ⟨rfl, h2, k2⟩
        replace HH := hid h2
        replace kk := hid (kk.out.trans k2)
        clear hh h2 k2
        go_wp2_with fail
        have hh := HH.out
        refine (hang_r HE3 hq hh).mono ?_
        rintro e_ w3 ⟨rfl, h3, k3⟩
        replace HH := hid h3
        replace kk := hid (kk.out.trans k3)
        clear hh h3 k3
        go_wp2_with fail
        go_ret
        exact ⟨rfl, HH.out, kk.out⟩
    · have hs : Wd.qput r q x s = (((), e), s2) := by
        unfold Wd.qput
        simp [bnd, eq1, eq2, he2]
      rw [hs]
      have HE1 : Hid (_ = _) := eq1
      have HE2 : Hid (_ = _) := eq2
      clear hs eq1 eq2
      have kk : Hid (Keeps (two b g) w w) := Keeps.refl _ w
      go_enter Try.func21, Try.ntmps21
      go_wp2_with fail
      have hh := HH.out
      refine (take_r HE1 hr hh).mono ?_
      rintro e_ w1 ⟨rfl, h1, k1⟩
      replace HH := hid h1
      replace kk := hid (kk.out.trans k1)
      clear hh h1 k1
      go_wp2_with fail
      have hh := HH.out
      refine (qput_laid [x, 0] HE2 hwn (fun i => by match i with | 0 => exact hx | 1 => exact zero_isW | (k + 2) => exact zero_isW) (by simp) hh).mono ?_
      rintro e_ w2 ⟨rfl, h2, k2⟩
      replace HH := hid h2
      replace kk := hid (kk.out.trans k2)
      clear hh h2 k2
      go_wp2_with fail
      go_ret
      exact ⟨rfl, HH.out, kk.out⟩
  · have hs : Wd.qput r q x s = (((), e), s1) := by
      unfold Wd.qput
      simp [bnd, eq1, he1]
    rw [hs]
    have HE1 : Hid (_ = _) := eq1
    clear hs eq1
    have kk : Hid (Keeps (two b g) w w) := Keeps.refl _ w
    go_enter Try.func21, Try.ntmps21
    go_wp2_with fail
    have hh := HH.out
    refine (take_r HE1 hr hh).mono ?_
    rintro e_ w1 ⟨rfl, h1, k1⟩
    replace HH := hid h1
    replace kk := hid (kk.out.trans k1)
    clear hh h1 k1
    go_wp2_with fail
    go_ret
    exact ⟨rfl, HH.out, kk.out⟩
theorem qpush_r {t b g c : Nat} {s : Wd} {r q x : Int} {e1 : Int} {s1 : Wd} (heq : Hid (Wd.qput r q x s = (((), e1), s1))) (hr : isW r) (hq : isW q) (hx : isW x) {w : World} (h : Tw w t b g c s) :
    Calls Try.prog 21 #[.iface 24 (.pointer (some ⟨t, 0, none⟩)), .int .u64 r, .int .u64 q, .int .u64 x] w fun e w' => e = .returned (.int .i64 e1) ∧ Tw w' t b g c s1 ∧ Keeps (two b g) w w' := by
  have q := qpush_any t b g c s r q x hr hq hx w h
  rw [heq.out] at q
  exact q
end Go.Proofs.Ytadbplbifjeghaa
