
/- The walks of room's functions (layer 25). No statement of the seat is proved here. -/
import Derived.Test.YtiacennkjjfifabTkDb
namespace Go.Proofs.Ytiacennkjjfifab
open Go.RowKit

set_option maxHeartbeats 2000000 in
theorem takeN_any (b g c : Nat) (s : Wd) (a n : Int) (ha : isW a) (rms : Rm s 3) (w : World) (h : WdAt 65 w b g c s) :
    Calls Try.prog 31 #[.iface 62 (.pointer (some ⟨b, 0, none⟩)), .int .u64 a, .int .u64 n] w fun e w' => e = .returned (.tuple #[.int .u64 (s.takeN a n).1.1, .int .i64 (s.takeN a n).1.2]) ∧ Hs 65 w b g c w' (s.takeN a n).2 := by
  have mg := meth_get b
  have mp := meth_put b
  have ng := nil_get b
  have np := nil_put b
  have oks : s.Ok := h.ok
  have HH := hid (Hs.start h)
  clear h
  obtain ⟨⟨⟨x, y, e⟩, s1⟩, eq1⟩ : ∃ r, s.free a = r := ⟨_, rfl⟩
  have rms1 : Rm s1 1 := Rm.free (k := 1) rms eq1
  have oks1 : s1.Ok := by have q := (oks.free a).1; rw [eq1] at q; exact q
  by_cases hze : e = 0
  · subst hze
    by_cases hyn : y < n
    · skip
      have hs : s.takeN a n = ((0, 9), s1) := by
        unfold Wd.takeN
        simp [eq1, hyn]
      rw [hs]
      have HE1 : Hid (_ = _) := eq1
      clear hs eq1
      go_enter Try.func31, Try.ntmps31
      go_wp2_with fail
      have hh := HH.out
      refine (unused_r HE1 ha (rms.le (by omega)) hh.wd).mono ?_
      rintro e_ w1 ⟨rfl, h1⟩
      replace HH := hid (hh.trans h1)
      clear hh h1
      go_wp2_with fail
      go_ret2
      exact ⟨rfl, HH.out⟩
    · skip
      obtain ⟨⟨f, s2⟩, eq2⟩ : ∃ r, s1.put (a) (uw (x + n)) = r := ⟨_, rfl⟩
      have oks2 : s2.Ok := by have q := oks1.put (a) ((uw_isW _) : isW (uw (x + n))); rw [eq2] at q; exact q
      have rms2 : Rm s2 0 := rms1.put eq2
      by_cases hzf : f = 0
      · subst hzf
        have hs : s.takeN a n = ((x, 0), s2) := by
          unfold Wd.takeN
          simp [eq1, eq2, hyn]
        rw [hs]
        have HE1 : Hid (_ = _) := eq1
        have HE2 : Hid (_ = _) := eq2
        clear hs eq1 eq2
        go_enter Try.func31, Try.ntmps31
        go_wp2_with fail
        have hh := HH.out
        refine (unused_r HE1 ha (rms.le (by omega)) hh.wd).mono ?_
        rintro e_ w1 ⟨rfl, h1⟩
        replace HH := hid (hh.trans h1)
        clear hh h1
        go_wp2_with fail
        have hh := HH.out
        refine (tput_r HE2 ha (uw_isW _) (rms1.le (by omega)) hh.wd).mono ?_
        rintro e_ w2 ⟨rfl, h2⟩
        replace HH := hid (hh.trans h2)
        clear hh h2
        go_wp2_with fail
        go_ret2
        exact ⟨rfl, HH.out⟩
      · skip
        have hs : s.takeN a n = ((0, f), s2) := by
          unfold Wd.takeN
          simp [eq1, eq2, hyn, hzf]
        rw [hs]
        have HE1 : Hid (_ = _) := eq1
        have HE2 : Hid (_ = _) := eq2
        clear hs eq1 eq2
        go_enter Try.func31, Try.ntmps31
        go_wp2_with fail
        have hh := HH.out
        refine (unused_r HE1 ha (rms.le (by omega)) hh.wd).mono ?_
        rintro e_ w1 ⟨rfl, h1⟩
        replace HH := hid (hh.trans h1)
        clear hh h1
        go_wp2_with fail
        have hh := HH.out
        refine (tput_r HE2 ha (uw_isW _) (rms1.le (by omega)) hh.wd).mono ?_
        rintro e_ w2 ⟨rfl, h2⟩
        replace HH := hid (hh.trans h2)
        clear hh h2
        go_wp2_with fail
        go_ret2
        exact ⟨rfl, HH.out⟩
  · skip
    have hs : s.takeN a n = ((0, e), s1) := by
      unfold Wd.takeN
      simp [eq1, hze]
    rw [hs]
    have HE1 : Hid (_ = _) := eq1
    clear hs eq1
    go_enter Try.func31, Try.ntmps31
    go_wp2_with fail
    have hh := HH.out
    refine (unused_r HE1 ha (rms.le (by omega)) hh.wd).mono ?_
    rintro e_ w1 ⟨rfl, h1⟩
    replace HH := hid (hh.trans h1)
    clear hh h1
    go_wp2_with fail
    go_ret2
    exact ⟨rfl, HH.out⟩
theorem takeN_r {b g c : Nat} {s : Wd} {a n : Int} {x1 e1 : Int} {s1 : Wd} (heq : Hid (s.takeN a n = ((x1, e1), s1))) (ha : isW a) (rms : Rm s 3) {w : World} (h : WdAt 65 w b g c s) :
    Calls Try.prog 31 #[.iface 62 (.pointer (some ⟨b, 0, none⟩)), .int .u64 a, .int .u64 n] w fun e w' => e = .returned (.tuple #[.int .u64 x1, .int .i64 e1]) ∧ Hs 65 w b g c w' s1 := by
  have q := takeN_any b g c s a n ha rms w h
  rw [heq.out] at q
  exact q
end Go.Proofs.Ytiacennkjjfifab
