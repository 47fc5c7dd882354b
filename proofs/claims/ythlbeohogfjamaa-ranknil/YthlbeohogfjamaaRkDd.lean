
/- The walks of room's functions (layer 24). No statement of the seat is proved here. -/
import Derived.Test.YthlbeohogfjamaaRkDa
import Derived.Test.YthlbeohogfjamaaRkDc
namespace Go.Proofs.Ythlbeohogfjamaa
open Go.RowKit

set_option maxHeartbeats 2000000 in
theorem take_any (b g c : Nat) (s : Wd) (a n : Int) (ha : isW a) (w : World) (h : WdAt w b g c s) :
    Calls Try.prog 62 #[.iface 24 (.pointer (some ⟨b, 0, none⟩)), .int .u64 a, .int .u64 n] w fun e w' => e = .returned (.tuple #[.int .u64 (s.take a n).1.1, .int .i64 (s.take a n).1.2]) ∧ WdAt w' b g c (s.take a n).2 ∧ Keeps (two b g) w w' := by
  have mg := meth_get b
  have mp := meth_put b
  have ng := nil_get b
  have np := nil_put b
  have oks : s.Ok := h.ok
  have HH := hid h
  clear h
  by_cases hm : mayN n
  · skip
    obtain ⟨⟨⟨x, e⟩, s1⟩, eq1⟩ : ∃ r, s.get (hdA a n) = r := ⟨_, rfl⟩
    have hwx : isW x := get_isW eq1 oks
    have oks1 : s1.Ok := by have q := (oks.get (hdA a n)).1; rw [eq1] at q; exact q
    by_cases hze : e = 0
    · subst hze
      by_cases hzx : x = 0
      · subst hzx
        obtain ⟨⟨⟨y, f⟩, s2⟩, eq2⟩ : ∃ r, s1.takeN a n = r := ⟨_, rfl⟩
        have hs : s.take a n = ((y, f), s2) := by
          unfold Wd.take
          simp [eq1, eq2, hm]
        rw [hs]
        have HE1 : Hid (_ = _) := eq1
        have HE2 : Hid (_ = _) := eq2
        clear hs eq1 eq2
        have kk : Hid (Keeps (two b g) w w) := Keeps.refl _ w
        go_enter Try.func62, Try.ntmps62
        go_wp2_with fail
        refine (may_yes b n hm _).mono ?_
        rintro e_ w_ ⟨rfl, rfl⟩
        go_wp2_with fail
        refine (headOf_any a n _).mono ?_
        rintro e_ w_ ⟨rfl, rfl⟩
        go_wp2_with fail
        have hh := HH.out
        refine (tget_r HE1 (uw_isW _) hh).mono ?_
        rintro e_ w1 ⟨rfl, h1, k1⟩
        replace HH := hid h1
        replace kk := hid (kk.out.trans k1)
        clear hh h1 k1
        go_wp2_with fail
        have hh := HH.out
        refine (takeN_r HE2 ha hh).mono ?_
        rintro e_ w2 ⟨rfl, h2, k2⟩
        replace HH := hid h2
        replace kk := hid (kk.out.trans k2)
        clear hh h2 k2
        go_wp2_with fail
        go_ret2
        exact ⟨rfl, HH.out, kk.out⟩
      · skip
        obtain ⟨⟨⟨y, f⟩, s2⟩, eq2⟩ : ∃ r, s1.takeG (hdA a n) (uw (x - 1)) = r := ⟨_, rfl⟩
        have hs : s.take a n = ((y, f), s2) := by
          unfold Wd.take
          simp [eq1, eq2, hm, hzx]
        rw [hs]
        have HE1 : Hid (_ = _) := eq1
        have HE2 : Hid (_ = _) := eq2
        clear hs eq1 eq2
        have kk : Hid (Keeps (two b g) w w) := Keeps.refl _ w
        go_enter Try.func62, Try.ntmps62
        go_wp2_with fail
        refine (may_yes b n hm _).mono ?_
        rintro e_ w_ ⟨rfl, rfl⟩
        go_wp2_with fail
        refine (headOf_any a n _).mono ?_
        rintro e_ w_ ⟨rfl, rfl⟩
        go_wp2_with fail
        have hh := HH.out
        refine (tget_r HE1 (uw_isW _) hh).mono ?_
        rintro e_ w1 ⟨rfl, h1, k1⟩
        replace HH := hid h1
        replace kk := hid (kk.out.trans k1)
        clear hh h1 k1
        go_wp2_with fail
        have hh := HH.out
        refine (takeG_r HE2 (uw_isW _) (uw_isW _) hh).mono ?_
        rintro e_ w2 ⟨rfl, h2, k2⟩
        replace HH := hid h2
        replace kk := hid (kk.out.trans k2)
        clear hh h2 k2
        go_wp2_with fail
        go_ret2
        exact ⟨rfl, HH.out, kk.out⟩
    · skip
      have hs : s.take a n = ((0, e), s1) := by
        unfold Wd.take
        simp [eq1, hm, hze]
      rw [hs]
      have HE1 : Hid (_ = _) := eq1
      clear hs eq1
      have kk : Hid (Keeps (two b g) w w) := Keeps.refl _ w
      go_enter Try.func62, Try.ntmps62
      go_wp2_with fail
      refine (may_yes b n hm _).mono ?_
      rintro e_ w_ ⟨rfl, rfl⟩
      go_wp2_with fail
      refine (headOf_any a n _).mono ?_
      rintro e_ w_ ⟨rfl, rfl⟩
      go_wp2_with fail
      have hh := HH.out
      refine (tget_r HE1 (uw_isW _) hh).mono ?_
      rintro e_ w1 ⟨rfl, h1, k1⟩
      replace HH := hid h1
      replace kk := hid (kk.out.trans k1)
      clear hh h1 k1
      go_wp2_with fail
      go_ret2
      exact ⟨rfl, HH.out, kk.out⟩
  · skip
    have hs : s.take a n = ((0, 2), s) := by
      unfold Wd.take
      simp [hm]
    rw [hs]
    clear hs
    have kk : Hid (Keeps (two b g) w w) := Keeps.refl _ w
    go_enter Try.func62, Try.ntmps62
    go_wp2_with fail
    refine (may_no b n hm _).mono ?_
    rintro e_ w_ ⟨rfl, rfl⟩
    go_wp2_with fail
    go_ret2
    exact ⟨rfl, HH.out, kk.out⟩
theorem take_r {b g c : Nat} {s : Wd} {a n x1 e1 : Int} {s1 : Wd} (heq : Hid (s.take a n = ((x1, e1), s1))) (ha : isW a) {w : World} (h : WdAt w b g c s) :
    Calls Try.prog 62 #[.iface 24 (.pointer (some ⟨b, 0, none⟩)), .int .u64 a, .int .u64 n] w fun e w' => e = .returned (.tuple #[.int .u64 x1, .int .i64 e1]) ∧ WdAt w' b g c s1 ∧ Keeps (two b g) w w' := by
  have q := take_any b g c s a n ha w h
  rw [heq.out] at q
  exact q
end Go.Proofs.Ythlbeohogfjamaa
