
/- The walks of room's functions (layer 24). No statement of the seat is proved here. -/
import Derived.Test.YthlbeohogfjamaaRkC
namespace Go.Proofs.Ythlbeohogfjamaa
open Go.RowKit

set_option maxHeartbeats 2000000 in
theorem takeG_any (b g c : Nat) (s : Wd) (hd p : Int) (hh0 : isW hd) (hp : isW p) (w : World) (h : WdAt w b g c s) :
    Calls Try.prog 85 #[.iface 24 (.pointer (some ⟨b, 0, none⟩)), .int .u64 hd, .int .u64 p] w fun e w' => e = .returned (.tuple #[.int .u64 (s.takeG hd p).1.1, .int .i64 (s.takeG hd p).1.2]) ∧ WdAt w' b g c (s.takeG hd p).2 ∧ Keeps (two b g) w w' := by
  have mg := meth_get b
  have mp := meth_put b
  have ng := nil_get b
  have np := nil_put b
  have oks : s.Ok := h.ok
  have HH := hid h
  clear h
  obtain ⟨⟨⟨x, e⟩, s1⟩, eq1⟩ : ∃ r, s.get (p) = r := ⟨_, rfl⟩
  have hwx : isW x := get_isW eq1 oks
  have oks1 : s1.Ok := by have q := (oks.get (p)).1; rw [eq1] at q; exact q
  by_cases hze : e = 0
  · subst hze
    obtain ⟨⟨f, s2⟩, eq2⟩ : ∃ r, s1.put (hd) (x) = r := ⟨_, rfl⟩
    have oks2 : s2.Ok := by have q := oks1.put (hd) (hwx : isW (x)); rw [eq2] at q; exact q
    by_cases hzf : f = 0
    · subst hzf
      have hs : s.takeG hd p = ((p, 0), s2) := by
        unfold Wd.takeG
        simp [eq1, eq2]
      rw [hs]
      have HE1 : Hid (_ = _) := eq1
      have HE2 : Hid (_ = _) := eq2
      clear hs eq1 eq2
      have kk : Hid (Keeps (two b g) w w) := Keeps.refl _ w
      go_enter Try.func85, Try.ntmps85
      go_wp2_with fail
      have hh := HH.out
      refine (tget_r HE1 hp hh).mono ?_
      rintro e_ w1 ⟨rfl, h1, k1⟩
      replace HH := hid h1
      replace kk := hid (kk.out.trans k1)
      clear hh h1 k1
      go_wp2_with fail
      have hh := HH.out
      refine (tput_r HE2 hh0 hwx hh).mono ?_
      rintro e_ w2 ⟨rfl, h2, k2⟩
      replace HH := hid h2
      replace kk := hid (kk.out.trans k2)
      clear hh h2 k2
      go_wp2_with fail
      go_ret2
      exact ⟨rfl, HH.out, kk.out⟩
    · skip
      have hs : s.takeG hd p = ((0, f), s2) := by
        unfold Wd.takeG
        simp [eq1, eq2, hzf]
      rw [hs]
      have HE1 : Hid (_ = _) := eq1
      have HE2 : Hid (_ = _) := eq2
      clear hs eq1 eq2
      have kk : Hid (Keeps (two b g) w w) := Keeps.refl _ w
      go_enter Try.func85, Try.ntmps85
      go_wp2_with fail
      have hh := HH.out
      refine (tget_r HE1 hp hh).mono ?_
      rintro e_ w1 ⟨rfl, h1, k1⟩
      replace HH := hid h1
      replace kk := hid (kk.out.trans k1)
      clear hh h1 k1
      go_wp2_with fail
      have hh := HH.out
      refine (tput_r HE2 hh0 hwx hh).mono ?_
      rintro e_ w2 ⟨rfl, h2, k2⟩
      replace HH := hid h2
      replace kk := hid (kk.out.trans k2)
      clear hh h2 k2
      go_wp2_with fail
      go_ret2
      exact ⟨rfl, HH.out, kk.out⟩
  · skip
    have hs : s.takeG hd p = ((0, e), s1) := by
      unfold Wd.takeG
      simp [eq1, hze]
    rw [hs]
    have HE1 : Hid (_ = _) := eq1
    clear hs eq1
    have kk : Hid (Keeps (two b g) w w) := Keeps.refl _ w
    go_enter Try.func85, Try.ntmps85
    go_wp2_with fail
    have hh := HH.out
    refine (tget_r HE1 hp hh).mono ?_
    rintro e_ w1 ⟨rfl, h1, k1⟩
    replace HH := hid h1
    replace kk := hid (kk.out.trans k1)
    clear hh h1 k1
    go_wp2_with fail
    go_ret2
    exact ⟨rfl, HH.out, kk.out⟩
theorem takeG_r {b g c : Nat} {s : Wd} {hd p x1 e1 : Int} {s1 : Wd} (heq : Hid (s.takeG hd p = ((x1, e1), s1))) (hh0 : isW hd) (hp : isW p) {w : World} (h : WdAt w b g c s) :
    Calls Try.prog 85 #[.iface 24 (.pointer (some ⟨b, 0, none⟩)), .int .u64 hd, .int .u64 p] w fun e w' => e = .returned (.tuple #[.int .u64 x1, .int .i64 e1]) ∧ WdAt w' b g c s1 ∧ Keeps (two b g) w w' := by
  have q := takeG_any b g c s hd p hh0 hp w h
  rw [heq.out] at q
  exact q
end Go.Proofs.Ythlbeohogfjamaa
