
/- The walks of room's functions (layer 24). No statement of the seat is proved here. -/
import Derived.Test.YthlbeohogfjamaaRkC
import Derived.Test.YthlbeohogfjamaaRkDa
namespace Go.Proofs.Ythlbeohogfjamaa
open Go.RowKit

set_option maxHeartbeats 2000000 in
theorem give_any (b g c : Nat) (s : Wd) (a p n : Int) (hp : isW p) (w : World) (h : WdAt w b g c s) :
    Calls Try.prog 61 #[.iface 24 (.pointer (some ⟨b, 0, none⟩)), .int .u64 a, .int .u64 p, .int .u64 n] w fun e w' => e = .returned (.int .i64 (s.give a p n).1) ∧ WdAt w' b g c (s.give a p n).2 ∧ Keeps (two b g) w w' := by
  have mg := meth_get b
  have mp := meth_put b
  have ng := nil_get b
  have np := nil_put b
  have oks : s.Ok := h.ok
  have HH := hid h
  clear h
  by_cases hm : mayN n
  · skip
    obtain ⟨⟨⟨x, e⟩, s1⟩, eq1⟩ : ∃ r, s.get (hdA a n) = r := ⟨_, rfl⟩
    have hwx : isW x := get_isW eq1 oks
    have oks1 : s1.Ok := by have q := (oks.get (hdA a n)).1; rw [eq1] at q; exact q
    by_cases hze : e = 0
    · subst hze
      obtain ⟨⟨f, s2⟩, eq2⟩ : ∃ r, s1.put (p) (x) = r := ⟨_, rfl⟩
      have oks2 : s2.Ok := by have q := oks1.put (p) (hwx : isW (x)); rw [eq2] at q; exact q
      by_cases hzf : f = 0
      · subst hzf
        obtain ⟨⟨f2, s3⟩, eq3⟩ : ∃ r, s2.put (hdA a n) (uw (p + 1)) = r := ⟨_, rfl⟩
        have oks3 : s3.Ok := by have q := oks2.put (hdA a n) ((uw_isW _) : isW (uw (p + 1))); rw [eq3] at q; exact q
        have hs : s.give a p n = (f2, s3) := by
          unfold Wd.give
          simp [eq1, eq2, eq3, hm]
        rw [hs]
        have HE1 : Hid (_ = _) := eq1
        have HE2 : Hid (_ = _) := eq2
        have HE3 : Hid (_ = _) := eq3
        clear hs eq1 eq2 eq3
        have kk : Hid (Keeps (two b g) w w) := Keeps.refl _ w
        go_enter Try.func61, Try.ntmps61
        go_wp2_with fail
        refine (may_yes b n hm _).mono ?_
        rintro e_ w_ ⟨rfl, rfl⟩
        go_wp2_with fail
        refine (headOf_any a n _).mono ?_
        rintro e_ w_ ⟨rfl, rfl⟩
        go_wp2_with fail
        have hh := HH.out
        refine (tget_r HE1 (uw_isW _) hh).mono ?_
        rintro e_ w1 ⟨rfl, h1, k1⟩
        replace HH := hid h1
        replace kk := hid (kk.out.trans k1)
        clear hh h1 k1
        go_wp2_with fail
        have hh := HH.out
        refine (tput_r HE2 hp hwx hh).mono ?_
        rintro e_ w2 ⟨rfl, h2, k2⟩
        replace HH := hid h2
        replace kk := hid (kk.out.trans k2)
        clear hh h2 k2
        go_wp2_with fail
        have hh := HH.out
        refine (tput_r HE3 (uw_isW _) (uw_isW _) hh).mono ?_
        rintro e_ w3 ⟨rfl, h3, k3⟩
        replace HH := hid h3
        replace kk := hid (kk.out.trans k3)
        clear hh h3 k3
        go_wp2_with fail
        go_ret
        exact ⟨rfl, HH.out, kk.out⟩
      · skip
        have hs : s.give a p n = (f, s2) := by
          unfold Wd.give
          simp [eq1, eq2, hm, hzf]
        rw [hs]
        have HE1 : Hid (_ = _) := eq1
        have HE2 : Hid (_ = _) := eq2
        clear hs eq1 eq2
        have kk : Hid (Keeps (two b g) w w) := Keeps.refl _ w
        go_enter Try.func61, Try.ntmps61
        go_wp2_with fail
        refine (may_yes b n hm _).mono ?_
        rintro e_ w_ ⟨rfl, rfl⟩
        go_wp2_with fail
        refine (headOf_any a n _).mono ?_
        rintro e_ w_ ⟨rfl, rfl⟩
        go_wp2_with fail
        have hh := HH.out
        refine (tget_r HE1 (uw_isW _) hh).mono ?_
        rintro e_ w1 ⟨rfl, h1, k1⟩
        replace HH := hid h1
        replace kk := hid (kk.out.trans k1)
        clear hh h1 k1
        go_wp2_with fail
        have hh := HH.out
        refine (tput_r HE2 hp hwx hh).mono ?_
        rintro e_ w2 ⟨rfl, h2, k2⟩
        replace HH := hid h2
        replace kk := hid (kk.out.trans k2)
        clear hh h2 k2
        go_wp2_with fail
        go_ret
        exact ⟨rfl, HH.out, kk.out⟩
    · skip
      have hs : s.give a p n = (e, s1) := by
        unfold Wd.give
        simp [eq1, hm, hze]
      rw [hs]
      have HE1 : Hid (_ = _) := eq1
      clear hs eq1
      have kk : Hid (Keeps (two b g) w w) := Keeps.refl _ w
      go_enter Try.func61, Try.ntmps61
      go_wp2_with fail
      refine (may_yes b n hm _).mono ?_
      rintro e_ w_ ⟨rfl, rfl⟩
      go_wp2_with fail
      refine (headOf_any a n _).mono ?_
      rintro e_ w_ ⟨rfl, rfl⟩
      go_wp2_with fail
      have hh := HH.out
      refine (tget_r HE1 (uw_isW _) hh).mono ?_
      rintro e_ w1 ⟨rfl, h1, k1⟩
      replace HH := hid h1
      replace kk := hid (kk.out.trans k1)
      clear hh h1 k1
      go_wp2_with fail
      go_ret
      exact ⟨rfl, HH.out, kk.out⟩
  · skip
    have hs : s.give a p n = (2, s) := by
      unfold Wd.give
      simp [hm]
    rw [hs]
    clear hs
    have kk : Hid (Keeps (two b g) w w) := Keeps.refl _ w
    go_enter Try.func61, Try.ntmps61
    go_wp2_with fail
    refine (may_no b n hm _).mono ?_
    rintro e_ w_ ⟨rfl, rfl⟩
    go_wp2_with fail
    go_ret
    exact ⟨rfl, HH.out, kk.out⟩
theorem give_r {b g c : Nat} {s : Wd} {a p n e1 : Int} {s1 : Wd} (heq : Hid (s.give a p n = (e1, s1))) (hp : isW p) {w : World} (h : WdAt w b g c s) :
    Calls Try.prog 61 #[.iface 24 (.pointer (some ⟨b, 0, none⟩)), .int .u64 a, .int .u64 p, .int .u64 n] w fun e w' => e = .returned (.int .i64 e1) ∧ WdAt w' b g c s1 ∧ Keeps (two b g) w w' := by
  have q := give_any b g c s a p n hp w h
  rw [heq.out] at q
  exact q
end Go.Proofs.Ythlbeohogfjamaa
