
/- The walks of the document's room (layer 20). No statement of the seat is proved here. -/
import Derived.Test.YthelfalmjihkdaaRmC
namespace Go.Proofs.Ythelfalmjihkdaa
open Go.RowKit

set_option maxHeartbeats 2000000 in
theorem rfree_any (b g c : Nat) (s : Wd) (a : Int) (ha : isW a) (w : World) (h : WdAt w b g c s) :
    Calls Try.prog 18 #[.pointer (some ⟨b, 0, none⟩), .int .u64 a] w fun e w' => e = .returned (.tuple #[.int .u64 (s.lft a).1.1, .int .i64 (s.lft a).1.2]) ∧ WdAt w' b g c (s.lft a).2 ∧ Keeps (two b g) w w' := by
  have oks : s.Ok := h.ok
  have HH := hid h
  clear h
  obtain ⟨⟨⟨x, e⟩, s1⟩, eq1⟩ : ∃ r, s.get (a) = r := ⟨_, rfl⟩
  have hwx : isW x := get_isW eq1 oks
  have oks1 : s1.Ok := by have q := (oks.get (a)).1; rw [eq1] at q; exact q
  by_cases hze : e = 0
  · subst hze
    obtain ⟨⟨⟨y, f⟩, s2⟩, eq2⟩ : ∃ r, s1.get (endA a) = r := ⟨_, rfl⟩
    have hwy : isW y := get_isW eq2 oks1
    have oks2 : s2.Ok := by have q := (oks1.get (endA a)).1; rw [eq2] at q; exact q
    by_cases hzf : f = 0
    · subst hzf
      by_cases hy : y ≤ x
      · skip
        have hy' : ¬ x < y := by omega
        have hs : s.lft a = ((0, 0), s2) := by
          unfold Wd.lft Wd.free
          simp [eq1, eq2, hy']
        rw [hs]
        have HE1 : Hid (_ = _) := eq1
        have HE2 : Hid (_ = _) := eq2
        clear hs eq1 eq2
        have kk : Hid (Keeps (two b g) w w) := Keeps.refl _ w
        go_enter Try.func18, Try.ntmps18
        go_wp2_with fail
        have hh := HH.out
        refine (wget_r HE1 ha hh).mono ?_
        rintro e_ w1 ⟨rfl, h1, k1⟩
        replace HH := hid h1
        replace kk := hid (kk.out.trans k1)
        clear hh h1 k1
        go_wp2_with fail
        have hh := HH.out
        refine (wget_r HE2 (uw_isW _) hh).mono ?_
        rintro e_ w2 ⟨rfl, h2, k2⟩
        replace HH := hid h2
        replace kk := hid (kk.out.trans k2)
        clear hh h2 k2
        go_wp2_with fail
        go_ret2
        exact ⟨rfl, HH.out, kk.out⟩
      · skip
        have hy' : x < y := by omega
        have hs : s.lft a = ((uw (y - x), 0), s2) := by
          unfold Wd.lft Wd.free
          simp [eq1, eq2, hy']
        rw [hs]
        have HE1 : Hid (_ = _) := eq1
        have HE2 : Hid (_ = _) := eq2
        clear hs eq1 eq2
        have kk : Hid (Keeps (two b g) w w) := Keeps.refl _ w
        go_enter Try.func18, Try.ntmps18
        go_wp2_with fail
        have hh := HH.out
        refine (wget_r HE1 ha hh).mono ?_
        rintro e_ w1 ⟨rfl, h1, k1⟩
        replace HH := hid h1
        replace kk := hid (kk.out.trans k1)
        clear hh h1 k1
        go_wp2_with fail
        have hh := HH.out
        refine (wget_r HE2 (uw_isW _) hh).mono ?_
        rintro e_ w2 ⟨rfl, h2, k2⟩
        replace HH := hid h2
        replace kk := hid (kk.out.trans k2)
        clear hh h2 k2
        go_wp2_with fail
        go_ret2
        exact ⟨rfl, HH.out, kk.out⟩
    · skip
      have hs : s.lft a = ((0, f), s2) := by
        unfold Wd.lft Wd.free
        simp [eq1, eq2, hzf]
      rw [hs]
      have HE1 : Hid (_ = _) := eq1
      have HE2 : Hid (_ = _) := eq2
      clear hs eq1 eq2
      have kk : Hid (Keeps (two b g) w w) := Keeps.refl _ w
      go_enter Try.func18, Try.ntmps18
      go_wp2_with fail
      have hh := HH.out
      refine (wget_r HE1 ha hh).mono ?_
      rintro e_ w1 ⟨rfl, h1, k1⟩
      replace HH := hid h1
      replace kk := hid (kk.out.trans k1)
      clear hh h1 k1
      go_wp2_with fail
      have hh := HH.out
      refine (wget_r HE2 (uw_isW _) hh).mono ?_
      rintro e_ w2 ⟨rfl, h2, k2⟩
      replace HH := hid h2
      replace kk := hid (kk.out.trans k2)
      clear hh h2 k2
      go_wp2_with fail
      go_ret2
      exact ⟨rfl, HH.out, kk.out⟩
  · skip
    have hs : s.lft a = ((0, e), s1) := by
      unfold Wd.lft Wd.free
      simp [eq1, hze]
    rw [hs]
    have HE1 : Hid (_ = _) := eq1
    clear hs eq1
    have kk : Hid (Keeps (two b g) w w) := Keeps.refl _ w
    go_enter Try.func18, Try.ntmps18
    go_wp2_with fail
    have hh := HH.out
    refine (wget_r HE1 ha hh).mono ?_
    rintro e_ w1 ⟨rfl, h1, k1⟩
    replace HH := hid h1
    replace kk := hid (kk.out.trans k1)
    clear hh h1 k1
    go_wp2_with fail
    go_ret2
    exact ⟨rfl, HH.out, kk.out⟩
theorem rfree_r {b g c : Nat} {s : Wd} {a x1 e1 : Int} {s1 : Wd} (heq : Hid (s.lft a = ((x1, e1), s1))) (ha : isW a) {w : World} (h : WdAt w b g c s) :
    Calls Try.prog 18 #[.pointer (some ⟨b, 0, none⟩), .int .u64 a] w fun e w' => e = .returned (.tuple #[.int .u64 x1, .int .i64 e1]) ∧ WdAt w' b g c s1 ∧ Keeps (two b g) w w' := by
  have q := rfree_any b g c s a ha w h
  rw [heq.out] at q
  exact q
end Go.Proofs.Ythelfalmjihkdaa
