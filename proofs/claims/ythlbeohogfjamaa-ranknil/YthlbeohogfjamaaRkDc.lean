
/- The walks of room's functions (layer 24). No statement of the seat is proved here. -/
import Derived.Test.YthlbeohogfjamaaRkDb
namespace Go.Proofs.Ythlbeohogfjamaa
open Go.RowKit

set_option maxHeartbeats 2000000 in
theorem takeN_any (b g c : Nat) (s : Wd) (a n : Int) (ha : isW a) (w : World) (h : WdAt w b g c s) :
    Calls Try.prog 84 #[.iface 24 (.pointer (some ⟨b, 0, none⟩)), .int .u64 a, .int .u64 n] w fun e w' => e = .returned (.tuple #[.int .u64 (s.takeN a n).1.1, .int .i64 (s.takeN a n).1.2]) ∧ WdAt w' b g c (s.takeN a n).2 ∧ Keeps (two b g) w w' := by
  have mg := meth_get b
  have mp := meth_put b
  have ng := nil_get b
  have np := nil_put b
  have oks : s.Ok := h.ok
  have HH := hid h
  clear h
  obtain ⟨⟨⟨x, y, e⟩, s1⟩, eq1⟩ : ∃ r, s.free a = r := ⟨_, rfl⟩
  by_cases hze : e = 0
  · subst hze
    by_cases hyn : y < n
    · skip
      have hs : s.takeN a n = ((0, 9), s1) := by
        unfold Wd.takeN
        simp [eq1, hyn]
      rw [hs]
      have HE1 : Hid (_ = _) := eq1
      clear hs eq1
      have kk : Hid (Keeps (two b g) w w) := Keeps.refl _ w
      go_enter Try.func84, Try.ntmps84
      go_wp2_with fail
      have hh := HH.out
      refine (unused_r HE1 ha hh).mono ?_
      rintro e_ w1 ⟨rfl, h1, k1⟩
      replace HH := hid h1
      replace kk := hid (kk.out.trans k1)
      clear hh h1 k1
      go_wp2_with fail
      go_ret2
      exact ⟨rfl, HH.out, kk.out⟩
    · skip
      obtain ⟨⟨f, s2⟩, eq2⟩ : ∃ r, s1.put (a) (uw (x + n)) = r := ⟨_, rfl⟩
      by_cases hzf : f = 0
      · subst hzf
        have hs : s.takeN a n = ((x, 0), s2) := by
          unfold Wd.takeN
          simp [eq1, eq2, hyn]
        rw [hs]
        have HE1 : Hid (_ = _) := eq1
        have HE2 : Hid (_ = _) := eq2
        clear hs eq1 eq2
        have kk : Hid (Keeps (two b g) w w) := Keeps.refl _ w
        go_enter Try.func84, Try.ntmps84
        go_wp2_with fail
        have hh := HH.out
        refine (unused_r HE1 ha hh).mono ?_
        rintro e_ w1 ⟨rfl, h1, k1⟩
        replace HH := hid h1
        replace kk := hid (kk.out.trans k1)
        clear hh h1 k1
        go_wp2_with fail
        have hh := HH.out
        refine (tput_r HE2 ha (uw_isW _) hh).mono ?_
        rintro e_ w2 ⟨rfl, h2, k2⟩
        replace HH := hid h2
        replace kk := hid (kk.out.trans k2)
        clear hh h2 k2
        go_wp2_with fail
        go_ret2
        exact ⟨rfl, HH.out, kk.out⟩
      · skip
        have hs : s.takeN a n = ((0, f), s2) := by
          unfold Wd.takeN
          simp [eq1, eq2, hyn, hzf]
        rw [hs]
        have HE1 : Hid (_ = _) := eq1
        have HE2 : Hid (_ = _) := eq2
        clear hs eq1 eq2
        have kk : Hid (Keeps (two b g) w w) := Keeps.refl _ w
        go_enter Try.func84, Try.ntmps84
        go_wp2_with fail
        have hh := HH.out
        refine (unused_r HE1 ha hh).mono ?_
        rintro e_ w1 ⟨rfl, h1, k1⟩
        replace HH := hid h1
        replace kk := hid (kk.out.trans k1)
        clear hh h1 k1
        go_wp2_with fail
        have hh := HH.out
        refine (tput_r HE2 ha (uw_isW _) hh).mono ?_
        rintro e_ w2 ⟨rfl, h2, k2⟩
        replace HH := hid h2
        replace kk := hid (kk.out.trans k2)
        clear hh h2 k2
        go_wp2_with fail
        go_ret2
        exact ⟨rfl, HH.out, kk.out⟩
  · skip
    have hs : s.takeN a n = ((0, e), s1) := by
      unfold Wd.takeN
      simp [eq1, hze]
    rw [hs]
    have HE1 : Hid (_ = _) := eq1
    clear hs eq1
    have kk : Hid (Keeps (two b g) w w) := Keeps.refl _ w
    go_enter Try.func84, Try.ntmps84
    go_wp2_with fail
    have hh := HH.out
    refine (unused_r HE1 ha hh).mono ?_
    rintro e_ w1 ⟨rfl, h1, k1⟩
    replace HH := hid h1
    replace kk := hid (kk.out.trans k1)
    clear hh h1 k1
    go_wp2_with fail
    go_ret2
    exact ⟨rfl, HH.out, kk.out⟩
theorem takeN_r {b g c : Nat} {s : Wd} {a n x1 e1 : Int} {s1 : Wd} (heq : Hid (s.takeN a n = ((x1, e1), s1))) (ha : isW a) {w : World} (h : WdAt w b g c s) :
    Calls Try.prog 84 #[.iface 24 (.pointer (some ⟨b, 0, none⟩)), .int .u64 a, .int .u64 n] w fun e w' => e = .returned (.tuple #[.int .u64 x1, .int .i64 e1]) ∧ WdAt w' b g c s1 ∧ Keeps (two b g) w w' := by
  have q := takeN_any b g c s a n ha w h
  rw [heq.out] at q
  exact q
end Go.Proofs.Ythlbeohogfjamaa
