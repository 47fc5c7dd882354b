
/- The walks of room's functions (layer 22). No statement of the seat is proved here. -/
import Derived.Test.YtifmpiiaebnbiaaSkD
namespace Go.Proofs.Ytifmpiiaebnbiaa
open Go.RowKit

set_option maxHeartbeats 2000000 in
theorem give_any (b g c : Nat) (s : Wd) (a p n : Int) (hp : isW p) (rms : Rm s 3) (w : World) (h : WdAt 27 w b g c s) :
    Calls Try.prog 55 #[.iface 23 (.pointer (some ⟨b, 0, none⟩)), .int .u64 a, .int .u64 p, .int .u64 n] w fun e w' => e = .returned (.int .i64 (s.give a p n).1) ∧ Hs 27 w b g c w' (s.give a p n).2 := by
  have mg := meth_get b
  have mp := meth_put b
  have ng := nil_get b
  have np := nil_put b
  have oks : s.Ok := h.ok
  have HH := hid (Hs.start h)
  clear h
  by_cases hm : mayN n
  · skip
    obtain ⟨⟨⟨x, e⟩, s1⟩, eq1⟩ : ∃ r, s.get (hdA a n) = r := ⟨_, rfl⟩
    have hwx : isW x := get_isW eq1 oks
    have oks1 : s1.Ok := by have q := (oks.get (hdA a n)).1; rw [eq1] at q; exact q
    have rms1 : Rm s1 2 := rms.get eq1
    by_cases hze : e = 0
    · subst hze
      obtain ⟨⟨f, s2⟩, eq2⟩ : ∃ r, s1.put (p) (x) = r := ⟨_, rfl⟩
      have oks2 : s2.Ok := by have q := oks1.put (p) (hwx : isW (x)); rw [eq2] at q; exact q
      have rms2 : Rm s2 1 := rms1.put eq2
      by_cases hzf : f = 0
      · subst hzf
        obtain ⟨⟨f2, s3⟩, eq3⟩ : ∃ r, s2.put (hdA a n) (uw (p + 1)) = r := ⟨_, rfl⟩
        have oks3 : s3.Ok := by have q := oks2.put (hdA a n) ((uw_isW _) : isW (uw (p + 1))); rw [eq3] at q; exact q
        have rms3 : Rm s3 0 := rms2.put eq3
        have hs : s.give a p n = (f2, s3) := by
          unfold Wd.give
          simp [eq1, eq2, eq3, hm]
        rw [hs]
        have HE1 : Hid (_ = _) := eq1
        have HE2 : Hid (_ = _) := eq2
        have HE3 : Hid (_ = _) := eq3
        clear hs eq1 eq2 eq3
        go_enter Try.func55, Try.ntmps55
        go_wp2_with fail
        refine (may_yes b n hm _).mono ?_
        rintro e_ w_ ⟨rfl, hw_⟩
        subst w_
        go_wp2_with fail
        refine (headOf_any a n _).mono ?_
        rintro e_ w_ ⟨rfl, hw_⟩
        subst w_
        go_wp2_with fail
        have hh := HH.out
        refine (tget_r HE1 (uw_isW _) (rms.le (by omega)) hh.wd).mono ?_
        rintro e_ w1 ⟨rfl, h1⟩
        replace HH := hid (hh.trans h1)
        clear hh h1
        go_wp2_with fail
        have hh := HH.out
        refine (tput_r HE2 hp hwx (rms1.le (by omega)) hh.wd).mono ?_
        rintro e_ w2 ⟨rfl, h2⟩
        replace HH := hid (hh.trans h2)
        clear hh h2
        go_wp2_with fail
        have hh := HH.out
        refine (tput_r HE3 (uw_isW _) (uw_isW _) (rms2.le (by omega)) hh.wd).mono ?_
        rintro e_ w3 ⟨rfl, h3⟩
        replace HH := hid (hh.trans h3)
        clear hh h3
        go_wp2_with fail
        go_ret
        exact ⟨rfl, HH.out⟩
      · skip
        have hs : s.give a p n = (f, s2) := by
          unfold Wd.give
          simp [eq1, eq2, hm, hzf]
        rw [hs]
        have HE1 : Hid (_ = _) := eq1
        have HE2 : Hid (_ = _) := eq2
        clear hs eq1 eq2
        go_enter Try.func55, Try.ntmps55
        go_wp2_with fail
        refine (may_yes b n hm _).mono ?_
        rintro e_ w_ ⟨rfl, hw_⟩
        subst w_
        go_wp2_with fail
        refine (headOf_any a n _).mono ?_
        rintro e_ w_ ⟨rfl, hw_⟩
        subst w_
        go_wp2_with fail
        have hh := HH.out
        refine (tget_r HE1 (uw_isW _) (rms.le (by omega)) hh.wd).mono ?_
        rintro e_ w1 ⟨rfl, h1⟩
        replace HH := hid (hh.trans h1)
        clear hh h1
        go_wp2_with fail
        have hh := HH.out
        refine (tput_r HE2 hp hwx (rms1.le (by omega)) hh.wd).mono ?_
        rintro e_ w2 ⟨rfl, h2⟩
        replace HH := hid (hh.trans h2)
        clear hh h2
        go_wp2_with fail
        go_ret
        exact ⟨rfl, HH.out⟩
    · skip
      have hs : s.give a p n = (e, s1) := by
        unfold Wd.give
        simp [eq1, hm, hze]
      rw [hs]
      have HE1 : Hid (_ = _) := eq1
      clear hs eq1
      go_enter Try.func55, Try.ntmps55
      go_wp2_with fail
      refine (may_yes b n hm _).mono ?_
      rintro e_ w_ ⟨rfl, hw_⟩
      subst w_
      go_wp2_with fail
      refine (headOf_any a n _).mono ?_
      rintro e_ w_ ⟨rfl, hw_⟩
      subst w_
      go_wp2_with fail
      have hh := HH.out
      refine (tget_r HE1 (uw_isW _) (rms.le (by omega)) hh.wd).mono ?_
      rintro e_ w1 ⟨rfl, h1⟩
      replace HH := hid (hh.trans h1)
      clear hh h1
      go_wp2_with fail
      go_ret
      exact ⟨rfl, HH.out⟩
  · skip
    have hs : s.give a p n = (2, s) := by
      unfold Wd.give
      simp [hm]
    rw [hs]
    clear hs 
    go_enter Try.func55, Try.ntmps55
    go_wp2_with fail
    refine (may_no b n hm _).mono ?_
    rintro e_ w_ ⟨rfl, hw_⟩
    subst w_
    go_wp2_with fail
    go_ret
    exact ⟨rfl, HH.out⟩
theorem give_r {b g c : Nat} {s : Wd} {a p n : Int} {e1 : Int} {s1 : Wd} (heq : Hid (s.give a p n = (e1, s1))) (hp : isW p) (rms : Rm s 3) {w : World} (h : WdAt 27 w b g c s) :
    Calls Try.prog 55 #[.iface 23 (.pointer (some ⟨b, 0, none⟩)), .int .u64 a, .int .u64 p, .int .u64 n] w fun e w' => e = .returned (.int .i64 e1) ∧ Hs 27 w b g c w' s1 := by
  have q := give_any b g c s a p n hp rms w h
  rw [heq.out] at q
  exact q
end Go.Proofs.Ytifmpiiaebnbiaa
