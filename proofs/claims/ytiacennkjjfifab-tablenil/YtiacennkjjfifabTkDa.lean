
/- The walks of room's functions (layer 25). No statement of the seat is proved here. -/
import Derived.Test.YtiacennkjjfifabTkD
namespace Go.Proofs.Ytiacennkjjfifab
open Go.RowKit

set_option maxHeartbeats 2000000 in
theorem takeG_any (b g c : Nat) (s : Wd) (hd p : Int) (hh0 : isW hd) (hp : isW p) (rms : Rm s 2) (w : World) (h : WdAt 65 w b g c s) :
    Calls Try.prog 32 #[.iface 62 (.pointer (some ⟨b, 0, none⟩)), .int .u64 hd, .int .u64 p] w fun e w' => e = .returned (.tuple #[.int .u64 (s.takeG hd p).1.1, .int .i64 (s.takeG hd p).1.2]) ∧ Hs 65 w b g c w' (s.takeG hd p).2 := by
  have mg := meth_get b
  have mp := meth_put b
  have ng := nil_get b
  have np := nil_put b
  have oks : s.Ok := h.ok
  have HH := hid (Hs.start h)
  clear h
  obtain ⟨⟨⟨x, e⟩, s1⟩, eq1⟩ : ∃ r, s.get (p) = r := ⟨_, rfl⟩
  have hwx : isW x := get_isW eq1 oks
  have oks1 : s1.Ok := by have q := (oks.get (p)).1; rw [eq1] at q; exact q
  have rms1 : Rm s1 1 := rms.get eq1
  by_cases hze : e = 0
  · subst hze
    obtain ⟨⟨f, s2⟩, eq2⟩ : ∃ r, s1.put (hd) (x) = r := ⟨_, rfl⟩
    have oks2 : s2.Ok := by have q := oks1.put (hd) (hwx : isW (x)); rw [eq2] at q; exact q
    have rms2 : Rm s2 0 := rms1.put eq2
    by_cases hzf : f = 0
    · subst hzf
      have hs : s.takeG hd p = ((p, 0), s2) := by
        unfold Wd.takeG
        simp [eq1, eq2]
      rw [hs]
      have HE1 : Hid (_ = _) := eq1
      have HE2 : Hid (_ = _) := eq2
      clear hs eq1 eq2
      go_enter Try.func32, Try.ntmps32
      go_wp2_with fail
      have hh := HH.out
      refine (tget_r HE1 hp (rms.le (by omega)) hh.wd).mono ?_
      rintro e_ w1 ⟨rfl, h1⟩
      replace HH := hid (hh.trans h1)
      clear hh h1
      go_wp2_with fail
      have hh := HH.out
      refine (tput_r HE2 hh0 hwx (rms1.le (by omega)) hh.wd).mono ?_
      rintro e_ w2 ⟨rfl, h2⟩
      replace HH := hid (hh.trans h2)
      clear hh h2
      go_wp2_with fail
      go_ret2
      exact ⟨rfl, HH.out⟩
    · skip
      have hs : s.takeG hd p = ((0, f), s2) := by
        unfold Wd.takeG
        simp [eq1, eq2, hzf]
      rw [hs]
      have HE1 : Hid (_ = _) := eq1
      have HE2 : Hid (_ = _) := eq2
      clear hs eq1 eq2
      go_enter Try.func32, Try.ntmps32
      go_wp2_with fail
      have hh := HH.out
      refine (tget_r HE1 hp (rms.le (by omega)) hh.wd).mono ?_
      rintro e_ w1 ⟨rfl, h1⟩
      replace HH := hid (hh.trans h1)
      clear hh h1
      go_wp2_with fail
      have hh := HH.out
      refine (tput_r HE2 hh0 hwx (rms1.le (by omega)) hh.wd).mono ?_
      rintro e_ w2 ⟨rfl, h2⟩
      replace HH := hid (hh.trans h2)
      clear hh h2
      go_wp2_with fail
      go_ret2
      exact ⟨rfl, HH.out⟩
  · skip
    have hs : s.takeG hd p = ((0, e), s1) := by
      unfold Wd.takeG
      simp [eq1, hze]
    rw [hs]
    have HE1 : Hid (_ = _) := eq1
    clear hs eq1
    go_enter Try.func32, Try.ntmps32
    go_wp2_with fail
    have hh := HH.out
    refine (tget_r HE1 hp (rms.le (by omega)) hh.wd).mono ?_
    rintro e_ w1 ⟨rfl, h1⟩
    replace HH := hid (hh.trans h1)
    clear hh h1
    go_wp2_with fail
    go_ret2
    exact ⟨rfl, HH.out⟩
theorem takeG_r {b g c : Nat} {s : Wd} {hd p : Int} {x1 e1 : Int} {s1 : Wd} (heq : Hid (s.takeG hd p = ((x1, e1), s1))) (hh0 : isW hd) (hp : isW p) (rms : Rm s 2) {w : World} (h : WdAt 65 w b g c s) :
    Calls Try.prog 32 #[.iface 62 (.pointer (some ⟨b, 0, none⟩)), .int .u64 hd, .int .u64 p] w fun e w' => e = .returned (.tuple #[.int .u64 x1, .int .i64 e1]) ∧ Hs 65 w b g c w' s1 := by
  have q := takeG_any b g c s hd p hh0 hp rms w h
  rw [heq.out] at q
  exact q
end Go.Proofs.Ytiacennkjjfifab
