
/- The walks of room's functions (layer 25). No statement of the seat is proved here. -/
import Derived.Test.YtiacennkjjfifabTkDa
import Derived.Test.YtiacennkjjfifabTkDc
namespace Go.Proofs.Ytiacennkjjfifab
open Go.RowKit

set_option maxHeartbeats 2000000 in
theorem take_any (b g c : Nat) (s : Wd) (a n : Int) (ha : isW a) (rms : Rm s 4) (w : World) (h : WdAt 65 w b g c s) :
    Calls Try.prog 16 #[.iface 62 (.pointer (some ⟨b, 0, none⟩)), .int .u64 a, .int .u64 n] w fun e w' => e = .returned (.tuple #[.int .u64 (s.take a n).1.1, .int .i64 (s.take a n).1.2]) ∧ Hs 65 w b g c w' (s.take a n).2 := by
  have mg := meth_get b
  have mp := meth_put b
  have ng := nil_get b
  have np := nil_put b
  have oks : s.Ok := h.ok
  have HH := hid (Hs.start h)
  clear h
  by_cases hm : mayN n
  · skip
    obtain ⟨⟨⟨x, e⟩, s1⟩, eq1⟩ : ∃ r, s.get (hdA a n) = r := ⟨_, rfl⟩
    have hwx : isW x := get_isW eq1 oks
    have oks1 : s1.Ok := by have q := (oks.get (hdA a n)).1; rw [eq1] at q; exact q
    have rms1 : Rm s1 3 := rms.get eq1
    by_cases hze : e = 0
    · subst hze
      by_cases hzx : x = 0
      · subst hzx
        obtain ⟨⟨⟨y, f⟩, s2⟩, eq2⟩ : ∃ r, s1.takeN a n = r := ⟨_, rfl⟩
        have hs : s.take a n = ((y, f), s2) := by
          unfold Wd.take
          simp [eq1, eq2, hm]
        rw [hs]
        have HE1 : Hid (_ = _) := eq1
        have HE2 : Hid (_ = _) := eq2
        clear hs eq1 eq2
        go_enter Try.func16, Try.ntmps16
        go_wp2_with fail
        refine (may_yes b n hm _).mono ?_
        rintro e_ w_ ⟨rfl, hw_⟩
        subst w_
        go_wp2_with fail
        refine (headOf_any a n _).mono ?_
        rintro e_ w_ ⟨rfl, hw_⟩
        subst w_
        go_wp2_with fail
        have hh := HH.out
        refine (tget_r HE1 (uw_isW _) (rms.le (by omega)) hh.wd).mono ?_
        rintro e_ w1 ⟨rfl, h1⟩
        replace HH := hid (hh.trans h1)
        clear hh h1
        go_wp2_with fail
        have hh := HH.out
        refine (takeN_r HE2 ha (rms1.le (by omega)) hh.wd).mono ?_
        rintro e_ w2 ⟨rfl, h2⟩
        replace HH := hid (hh.trans h2)
        clear hh h2
        go_wp2_with fail
        go_ret2
        exact ⟨rfl, HH.out⟩
      · skip
        obtain ⟨⟨⟨y, f⟩, s2⟩, eq2⟩ : ∃ r, s1.takeG (hdA a n) (uw (x - 1)) = r := ⟨_, rfl⟩
        have hs : s.take a n = ((y, f), s2) := by
          unfold Wd.take
          simp [eq1, eq2, hm, hzx]
        rw [hs]
        have HE1 : Hid (_ = _) := eq1
        have HE2 : Hid (_ = _) := eq2
        clear hs eq1 eq2
        go_enter Try.func16, Try.ntmps16
        go_wp2_with fail
        refine (may_yes b n hm _).mono ?_
        rintro e_ w_ ⟨rfl, hw_⟩
        subst w_
        go_wp2_with fail
        refine (headOf_any a n _).mono ?_
        rintro e_ w_ ⟨rfl, hw_⟩
        subst w_
        go_wp2_with fail
        have hh := HH.out
        refine (tget_r HE1 (uw_isW _) (rms.le (by omega)) hh.wd).mono ?_
        rintro e_ w1 ⟨rfl, h1⟩
        replace HH := hid (hh.trans h1)
        clear hh h1
        go_wp2_with fail
        have hh := HH.out
        refine (takeG_r HE2 (uw_isW _) (uw_isW _) (rms1.le (by omega)) hh.wd).mono ?_
        rintro e_ w2 ⟨rfl, h2⟩
        replace HH := hid (hh.trans h2)
        clear hh h2
        go_wp2_with fail
        go_ret2
        exact ⟨rfl, HH.out⟩
    · skip
      have hs : s.take a n = ((0, e), s1) := by
        unfold Wd.take
        simp [eq1, hm, hze]
      rw [hs]
      have HE1 : Hid (_ = _) := eq1
      clear hs eq1
      go_enter Try.func16, Try.ntmps16
      go_wp2_with fail
      refine (may_yes b n hm _).mono ?_
      rintro e_ w_ ⟨rfl, hw_⟩
      subst w_
      go_wp2_with fail
      refine (headOf_any a n _).mono ?_
      rintro e_ w_ ⟨rfl, hw_⟩
      subst w_
      go_wp2_with fail
      have hh := HH.out
      refine (tget_r HE1 (uw_isW _) (rms.le (by omega)) hh.wd).mono ?_
      rintro e_ w1 ⟨rfl, h1⟩
      replace HH := hid (hh.trans h1)
      clear hh h1
      go_wp2_with fail
      go_ret2
      exact ⟨rfl, HH.out⟩
  · skip
    have hs : s.take a n = ((0, 2), s) := by
      unfold Wd.take
      simp [hm]
    rw [hs]
    clear hs 
    go_enter Try.func16, Try.ntmps16
    go_wp2_with fail
    refine (may_no b n hm _).mono ?_
    rintro e_ w_ ⟨rfl, hw_⟩
    subst w_
    go_wp2_with fail
    go_ret2
    exact ⟨rfl, HH.out⟩
theorem take_r {b g c : Nat} {s : Wd} {a n : Int} {x1 e1 : Int} {s1 : Wd} (heq : Hid (s.take a n = ((x1, e1), s1))) (ha : isW a) (rms : Rm s 4) {w : World} (h : WdAt 65 w b g c s) :
    Calls Try.prog 16 #[.iface 62 (.pointer (some ⟨b, 0, none⟩)), .int .u64 a, .int .u64 n] w fun e w' => e = .returned (.tuple #[.int .u64 x1, .int .i64 e1]) ∧ Hs 65 w b g c w' s1 := by
  have q := take_any b g c s a n ha rms w h
  rw [heq.out] at q
  exact q
end Go.Proofs.Ytiacennkjjfifab
