
/- The walk of the document's First (layer 22). No statement of the seat is proved here. -/
import Derived.Test.YtjgibkofenkehaaSrC
namespace Go.Proofs.Ytjgibkofenkehaa
open Go.RowKit

theorem get_err {s s1 : Wd} {a x e : Int} (h : s.get a = ((x, e), s1)) (he : e ≠ 0) : x = 0 := by
  unfold Wd.get at h
  split at h
  · simp only [Prod.mk.injEq] at h; exact h.1.1.symm
  · simp only [Prod.mk.injEq] at h; exact absurd h.1.2.symm he
set_option maxHeartbeats 2000000 in
theorem rfirst_any (b g c : Nat) (s : Wd) (at_ : Int) (hat : isW at_) (rms : Rm s 2) (w : World) (h : WdAt 30 w b g c s) :
    Calls Try.prog 36 #[.pointer (some ⟨b, 0, none⟩), .int .u64 at_] w fun e w' => e = .returned (.tuple #[.int .u64 (s.first at_).1.1, .bool (s.first at_).1.2.1, .int .i64 (s.first at_).1.2.2]) ∧ Hs 30 w b g c w' (s.first at_).2 := by
  have oks : s.Ok := h.ok
  have HH := hid (Hs.start h)
  clear h
  obtain ⟨⟨⟨x, e⟩, s1⟩, eq1⟩ : ∃ r, s.get (at_) = r := ⟨_, rfl⟩
  have hwx : isW x := get_isW eq1 oks
  have oks1 : s1.Ok := by have q := (oks.get (at_)).1; rw [eq1] at q; exact q
  have rms1 : Rm s1 1 := rms.get eq1
  by_cases hze : e = 0
  · subst hze
    by_cases hzx : x = 0
    · subst hzx
      have hs : s.first at_ = ((0, false, 0), s1) := by
        unfold Wd.first
        simp [eq1, Wd.fol, Lk.leads]
      rw [hs]
      have HE1 : Hid (_ = _) := eq1
      clear hs eq1
      go_enter Try.func36, Try.ntmps36
      go_wp2_with fail
      have hh := HH.out
      refine (wget_r HE1 hat (rms.le (by omega)) hh.wd).mono ?_
      rintro e_ w1 ⟨rfl, h1⟩
      replace HH := hid (hh.trans h1)
      clear hh h1
      go_wp2_with fail
      go_ret3
      exact ⟨rfl, HH.out⟩
    · skip
      obtain ⟨⟨⟨y, f⟩, s2⟩, eq2⟩ : ∃ r, s1.get (uw (x - 1)) = r := ⟨_, rfl⟩
      have hwy : isW y := get_isW eq2 oks1
      have oks2 : s2.Ok := by have q := (oks1.get (uw (x - 1))).1; rw [eq2] at q; exact q
      have rms2 : Rm s2 0 := rms1.get eq2
      by_cases hzf : f = 0
      · subst hzf
        have hs : s.first at_ = ((y, true, 0), s2) := by
          unfold Wd.first
          simp [eq1, eq2, hzx, Wd.fol, Lk.leads]
        rw [hs]
        have HE1 : Hid (_ = _) := eq1
        have HE2 : Hid (_ = _) := eq2
        clear hs eq1 eq2
        go_enter Try.func36, Try.ntmps36
        go_wp2_with fail
        have hh := HH.out
        refine (wget_r HE1 hat (rms.le (by omega)) hh.wd).mono ?_
        rintro e_ w1 ⟨rfl, h1⟩
        replace HH := hid (hh.trans h1)
        clear hh h1
        go_wp2_with fail
        have hh := HH.out
        refine (wget_r HE2 (uw_isW _) (rms1.le (by omega)) hh.wd).mono ?_
        rintro e_ w2 ⟨rfl, h2⟩
        replace HH := hid (hh.trans h2)
        clear hh h2
        go_wp2_with fail
        go_ret3
        exact ⟨rfl, HH.out⟩
      · skip
        have hfb : (f == 0) = false := by simpa using hzf
        obtain rfl : y = 0 := get_err eq2 hzf
        have hs : s.first at_ = ((0, false, f), s2) := by
          unfold Wd.first
          simp [eq1, eq2, hzx, hzf, Wd.fol, Lk.leads, Lk.zero]
        rw [hs]
        have HE1 : Hid (_ = _) := eq1
        have HE2 : Hid (_ = _) := eq2
        clear hs eq1 eq2
        go_enter Try.func36, Try.ntmps36
        go_wp2_with fail
        have hh := HH.out
        refine (wget_r HE1 hat (rms.le (by omega)) hh.wd).mono ?_
        rintro e_ w1 ⟨rfl, h1⟩
        replace HH := hid (hh.trans h1)
        clear hh h1
        go_wp2_with fail
        have hh := HH.out
        refine (wget_r HE2 (uw_isW _) (rms1.le (by omega)) hh.wd).mono ?_
        rintro e_ w2 ⟨rfl, h2⟩
        replace HH := hid (hh.trans h2)
        clear hh h2
        go_wp2_with fail
        go_ret3
        exact ⟨rfl, HH.out⟩
  · skip
    have hs : s.first at_ = ((0, false, e), s1) := by
      unfold Wd.first
      simp [eq1, hze, Wd.fol, Lk.leads, Lk.zero]
    rw [hs]
    have HE1 : Hid (_ = _) := eq1
    clear hs eq1
    go_enter Try.func36, Try.ntmps36
    go_wp2_with fail
    have hh := HH.out
    refine (wget_r HE1 hat (rms.le (by omega)) hh.wd).mono ?_
    rintro e_ w1 ⟨rfl, h1⟩
    replace HH := hid (hh.trans h1)
    clear hh h1
    go_wp2_with fail
    go_ret3
    exact ⟨rfl, HH.out⟩
theorem rfirst_r {b g c : Nat} {s : Wd} {at_ : Int} {x1 : Int} {b1 : Bool} {e1 : Int} {s1 : Wd} (heq : Hid (s.first at_ = ((x1, b1, e1), s1))) (hat : isW at_) (rms : Rm s 2) {w : World} (h : WdAt 30 w b g c s) :
    Calls Try.prog 36 #[.pointer (some ⟨b, 0, none⟩), .int .u64 at_] w fun e w' => e = .returned (.tuple #[.int .u64 x1, .bool b1, .int .i64 e1]) ∧ Hs 30 w b g c w' s1 := by
  have q := rfirst_any b g c s at_ hat rms w h
  rw [heq.out] at q
  exact q
end Go.Proofs.Ytjgibkofenkehaa
