
/- The walk of queue's New (layer 23). No statement of the seat is proved here. -/
import Derived.Test.YtadbplbifjeghaaQuT
namespace Go.Proofs.Ytadbplbifjeghaa
open Go.RowKit

set_option maxRecDepth 100000 in
set_option maxHeartbeats 2000000 in
theorem qnew_any (t b g c : Nat) (s : Wd) (r : Int) (hr : isW r) (w : World) (h : Tw w t b g c s) :
    Calls Try.prog 19 #[.iface 24 (.pointer (some ⟨t, 0, none⟩)), .int .u64 r] w fun e w' => e = .returned (.tuple #[.int .u64 (Wd.qnew r s).1.1, .int .i64 (Wd.qnew r s).1.2]) ∧ Tw w' t b g c (Wd.qnew r s).2 ∧ Keeps (two b g) w w' := by
  have HH := hid h
  have oks : s.Ok := h.wd.ok
  clear h
  obtain ⟨⟨⟨q, e⟩, s1⟩, eq1⟩ : ∃ rr, (s).take r 3 = rr := ⟨_, rfl⟩
  have hwq : isW q := by have p := take_isW oks r 3; rw [eq1] at p; exact p
  by_cases he1 : e = 0
  · subst he1
    obtain ⟨⟨⟨⟨⟩, e⟩, s2⟩, eq2⟩ : ∃ rr, putsU q [0, 0, 0] s1 = rr := ⟨_, rfl⟩
    by_cases he2 : e = 0
    · subst he2
      have hs : Wd.qnew r s = ((q, 0), s2) := by
        unfold Wd.qnew
        simp [bnd, rtn, eq1, eq2]
      rw [hs]
      have HE1 : Hid (_ = _) := eq1
      have HE2 : Hid (_ = _) := eq2
      clear hs eq1 eq2
      have kk : Hid (Keeps (two b g) w w) := Keeps.refl _ w
      go_enter Try.func19, Try.ntmps19
      go_wp2_with fail
      have hh := HH.out
      refine (take_r HE1 hr hh).mono ?_
      rintro e_ w1 ⟨rfl, h1, k1⟩
      replace HH := hid h1
      replace kk := hid (kk.out.trans k1)
      clear hh h1 k1
      go_wp2_with fail
      have hh := HH.out
      refine (qput_laid [0, 0, 0] HE2 hwq (fun i => by match i with | 0 => exact zero_isW | 1 => exact zero_isW | 2 => exact zero_isW | (k + 3) => exact zero_isW) (by simp) hh).mono ?_
      rintro e_ w2 ⟨rfl, h2, k2⟩
      replace HH := hid h2
      replace kk := hid (kk.out.trans k2)
      clear hh h2 k2
      go_wp2_with fail
      go_ret2
      exact ⟨rfl, HH.out, kk.out⟩
    · have hs : Wd.qnew r s = ((0, e), s2) := by
        unfold Wd.qnew
        simp [bnd, eq1, eq2, he2]
      rw [hs]
      have HE1 : Hid (_ = _) := eq1
      have HE2 : Hid (_ = _) := eq2
      clear hs eq1 eq2
      have kk : Hid (Keeps (two b g) w w) := Keeps.refl _ w
      go_enter Try.func19, Try.ntmps19
      go_wp2_with fail
      have hh := HH.out
      refine (take_r HE1 hr hh).mono ?_
      rintro e_ w1 ⟨rfl, h1, k1⟩
      replace HH := hid h1
      replace kk := hid (kk.out.trans k1)
      clear hh h1 k1
      go_wp2_with fail
      have hh := HH.out
      refine (qput_laid [0, 0, 0] HE2 hwq (fun i => by match i with | 0 => exact zero_isW | 1 => exact zero_isW | 2 => exact zero_isW | (k + 3) => exact zero_isW) (by simp) hh).mono ?_
      rintro e_ w2 ⟨rfl, h2, k2⟩
      replace HH := hid h2
      replace kk := hid (kk.out.trans k2)
      clear hh h2 k2
      go_wp2_with fail
      go_ret2
      exact ⟨rfl, HH.out, kk.out⟩
  · have hs : Wd.qnew r s = ((0, e), s1) := by
      unfold Wd.qnew
      simp [bnd, eq1, he1]
    rw [hs]
    have HE1 : Hid (_ = _) := eq1
    clear hs eq1
    have kk : Hid (Keeps (two b g) w w) := Keeps.refl _ w
    go_enter Try.func19, Try.ntmps19
    go_wp2_with fail
    have hh := HH.out
    refine (take_r HE1 hr hh).mono ?_
    rintro e_ w1 ⟨rfl, h1, k1⟩
    replace HH := hid h1
    replace kk := hid (kk.out.trans k1)
    clear hh h1 k1
    go_wp2_with fail
    go_ret2
    exact ⟨rfl, HH.out, kk.out⟩
theorem qnew_r {t b g c : Nat} {s : Wd} {r : Int} {x1 e1 : Int} {s1 : Wd} (heq : Hid (Wd.qnew r s = ((x1, e1), s1))) (hr : isW r) {w : World} (h : Tw w t b g c s) :
    Calls Try.prog 19 #[.iface 24 (.pointer (some ⟨t, 0, none⟩)), .int .u64 r] w fun e w' => e = .returned (.tuple #[.int .u64 x1, .int .i64 e1]) ∧ Tw w' t b g c s1 ∧ Keeps (two b g) w w' := by
  have q := qnew_any t b g c s r hr w h
  rw [heq.out] at q
  exact q
end Go.Proofs.Ytadbplbifjeghaa
