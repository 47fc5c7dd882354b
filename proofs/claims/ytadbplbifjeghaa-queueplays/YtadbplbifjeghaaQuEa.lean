
/- The walks of the document's room (layer 23). No statement of the seat is proved here. -/
import Derived.Test.YtadbplbifjeghaaQuC
namespace Go.Proofs.Ytadbplbifjeghaa
open Go.RowKit

set_option maxHeartbeats 2000000 in
theorem rtake_any (b g c : Nat) (s : Wd) (a n : Int) (ha : isW a) (w : World) (h : WdAt w b g c s) :
    Calls Try.prog 36 #[.pointer (some ⟨b, 0, none⟩), .int .u64 a, .int .u64 n] w fun e w' => e = .returned (.tuple #[.int .u64 (s.take a n).1.1, .int .i64 (s.take a n).1.2]) ∧ WdAt w' b g c (s.take a n).2 ∧ Keeps (two b g) w w' := by
  have oks : s.Ok := h.ok
  have HH := hid h
  clear h
  by_cases hn1 : n < 1
  · skip
    have hm : ¬ mayN n := fun h => by unfold mayN at h; omega
    have hs : s.take a n = ((0, 2), s) := by
      unfold Wd.take Wd.takeN Wd.takeG Wd.free
      simp [hm]
    rw [hs]
    clear hs
    have kk : Hid (Keeps (two b g) w w) := Keeps.refl _ w
    go_enter Try.func36, Try.ntmps36
    go_wp2_with fail
    go_ret2
    exact ⟨rfl, HH.out, kk.out⟩
  · skip
    by_cases hn2 : 16 < n
    · skip
      have hm : ¬ mayN n := fun h => by unfold mayN at h; omega
      replace hn1 : 1 ≤ n := by omega
      have hs : s.take a n = ((0, 2), s) := by
        unfold Wd.take Wd.takeN Wd.takeG Wd.free
        simp [hm]
      rw [hs]
      clear hs
      have kk : Hid (Keeps (two b g) w w) := Keeps.refl _ w
      go_enter Try.func36, Try.ntmps36
      go_wp2_with fail
      go_ret2
      exact ⟨rfl, HH.out, kk.out⟩
    · skip
      have hm : mayN n := ⟨by omega, by omega⟩
      replace hn1 : 1 ≤ n := by omega
      replace hn2 : n ≤ 16 := by omega
      obtain ⟨⟨⟨x, e⟩, s1⟩, eq1⟩ : ∃ r, s.get (hdA a n) = r := ⟨_, rfl⟩
      have hwx : isW x := get_isW eq1 oks
      have oks1 : s1.Ok := by have q := (oks.get (hdA a n)).1; rw [eq1] at q; exact q
      by_cases hze : e = 0
      · subst hze
        by_cases hzx : x = 0
        · subst hzx
          obtain ⟨⟨⟨nx, e2⟩, s2⟩, eq2⟩ : ∃ r, s1.get (a) = r := ⟨_, rfl⟩
          have hwnx : isW nx := get_isW eq2 oks1
          have oks2 : s2.Ok := by have q := (oks1.get (a)).1; rw [eq2] at q; exact q
          by_cases hze2 : e2 = 0
          · subst hze2
            obtain ⟨⟨⟨y, e3⟩, s3⟩, eq3⟩ : ∃ r, s2.get (endA a) = r := ⟨_, rfl⟩
            have hwy : isW y := get_isW eq3 oks2
            have oks3 : s3.Ok := by have q := (oks2.get (endA a)).1; rw [eq3] at q; exact q
            by_cases hze3 : e3 = 0
            · subst hze3
              by_cases hy : y ≤ nx
              · skip
                have hy' : ¬ nx < y := by omega
                have hn0 : 0 < n := by omega
                have hs : s.take a n = ((0, 9), s3) := by
                  unfold Wd.take Wd.takeN Wd.takeG Wd.free
                  simp [eq1, eq2, eq3, hy', hn0, hm]
                rw [hs]
                have HE1 : Hid (_ = _) := eq1
                have HE2 : Hid (_ = _) := eq2
                have HE3 : Hid (_ = _) := eq3
                clear hs eq1 eq2 eq3
                have kk : Hid (Keeps (two b g) w w) := Keeps.refl _ w
                go_enter Try.func36, Try.ntmps36
                go_wp2_with fail
                have hh := HH.out
                refine (wget_r HE1 (uw_isW _) hh).mono ?_
                rintro e_ w1 ⟨rfl, h1, k1⟩
                replace HH := hid h1
                replace kk := hid (kk.out.trans k1)
                clear hh h1 k1
                go_wp2_with fail
                have hh := HH.out
                refine (wget_r HE2 ha hh).mono ?_
                rintro e_ w2 ⟨rfl, h2, k2⟩
                replace HH := hid h2
                replace kk := hid (kk.out.trans k2)
                clear hh h2 k2
                go_wp2_with fail
                have hh := HH.out
                refine (wget_r HE3 (uw_isW _) hh).mono ?_
                rintro e_ w3 ⟨rfl, h3, k3⟩
                replace HH := hid h3
                replace kk := hid (kk.out.trans k3)
                clear hh h3 k3
                go_wp2_with fail
                go_ret2
                exact ⟨rfl, HH.out, kk.out⟩
              · skip
                have hy' : nx < y := by omega
                by_cases hyn : uw (y - nx) < n
                · skip
                  have hyv : IntKind.u64.wrap (y - nx) < n := hyn
                  have hs : s.take a n = ((0, 9), s3) := by
                    unfold Wd.take Wd.takeN Wd.takeG Wd.free
                    simp [eq1, eq2, eq3, hyn, hy', hm]
                  rw [hs]
                  have HE1 : Hid (_ = _) := eq1
                  have HE2 : Hid (_ = _) := eq2
                  have HE3 : Hid (_ = _) := eq3
                  clear hs eq1 eq2 eq3
                  have kk : Hid (Keeps (two b g) w w) := Keeps.refl _ w
                  go_enter Try.func36, Try.ntmps36
                  go_wp2_with fail
                  have hh := HH.out
                  refine (wget_r HE1 (uw_isW _) hh).mono ?_
                  rintro e_ w1 ⟨rfl, h1, k1⟩
                  replace HH := hid h1
                  replace kk := hid (kk.out.trans k1)
                  clear hh h1 k1
                  go_wp2_with fail
                  have hh := HH.out
                  refine (wget_r HE2 ha hh).mono ?_
                  rintro e_ w2 ⟨rfl, h2, k2⟩
                  replace HH := hid h2
                  replace kk := hid (kk.out.trans k2)
                  clear hh h2 k2
                  go_wp2_with fail
                  have hh := HH.out
                  refine (wget_r HE3 (uw_isW _) hh).mono ?_
                  rintro e_ w3 ⟨rfl, h3, k3⟩
                  replace HH := hid h3
                  replace kk := hid (kk.out.trans k3)
                  clear hh h3 k3
                  go_wp2_with fail
                  go_ret2
                  exact ⟨rfl, HH.out, kk.out⟩
                · skip
                  have hyv : n ≤ IntKind.u64.wrap (y - nx) := by have q : ¬ IntKind.u64.wrap (y - nx) < n := hyn; omega
                  obtain ⟨⟨e4, s4⟩, eq4⟩ : ∃ r, s3.put (a) (uw (nx + n)) = r := ⟨_, rfl⟩
                  by_cases hze4 : e4 = 0
                  · subst hze4
                    have hs : s.take a n = ((nx, 0), s4) := by
                      unfold Wd.take Wd.takeN Wd.takeG Wd.free
                      simp [eq1, eq2, eq3, eq4, hyn, hy', hm]
                    rw [hs]
                    have HE1 : Hid (_ = _) := eq1
                    have HE2 : Hid (_ = _) := eq2
                    have HE3 : Hid (_ = _) := eq3
                    have HE4 : Hid (_ = _) := eq4
                    clear hs eq1 eq2 eq3 eq4
                    have kk : Hid (Keeps (two b g) w w) := Keeps.refl _ w
                    go_enter Try.func36, Try.ntmps36
                    go_wp2_with fail
                    have hh := HH.out
                    refine (wget_r HE1 (uw_isW _) hh).mono ?_
                    rintro e_ w1 ⟨rfl, h1, k1⟩
                    replace HH := hid h1
                    replace kk := hid (kk.out.trans k1)
                    clear hh h1 k1
                    go_wp2_with fail
                    have hh := HH.out
                    refine (wget_r HE2 ha hh).mono ?_
                    rintro e_ w2 ⟨rfl, h2, k2⟩
                    replace HH := hid h2
                    replace kk := hid (kk.out.trans k2)
                    clear hh h2 k2
                    go_wp2_with fail
                    have hh := HH.out
                    refine (wget_r HE3 (uw_isW _) hh).mono ?_
                    rintro e_ w3 ⟨rfl, h3, k3⟩
                    replace HH := hid h3
                    replace kk := hid (kk.out.trans k3)
                    clear hh h3 k3
                    go_wp2_with fail
                    have hh := HH.out
                    refine (wput_r HE4 ha (uw_isW _) hh).mono ?_
                    rintro e_ w4 ⟨rfl, h4, k4⟩
                    replace HH := hid h4
                    replace kk := hid (kk.out.trans k4)
                    clear hh h4 k4
                    go_wp2_with fail
                    go_ret2
                    exact ⟨rfl, HH.out, kk.out⟩
                  · skip
                    have hs : s.take a n = ((0, e4), s4) := by
                      unfold Wd.take Wd.takeN Wd.takeG Wd.free
                      simp [eq1, eq2, eq3, eq4, hyn, hze4, hy', hm]
                    rw [hs]
                    have HE1 : Hid (_ = _) := eq1
                    have HE2 : Hid (_ = _) := eq2
                    have HE3 : Hid (_ = _) := eq3
                    have HE4 : Hid (_ = _) := eq4
                    clear hs eq1 eq2 eq3 eq4
                    have kk : Hid (Keeps (two b g) w w) := Keeps.refl _ w
                    go_enter Try.func36, Try.ntmps36
                    go_wp2_with fail
                    have hh := HH.out
                    refine (wget_r HE1 (uw_isW _) hh).mono ?_
                    rintro e_ w1 ⟨rfl, h1, k1⟩
                    replace HH := hid h1
                    replace kk := hid (kk.out.trans k1)
                    clear hh h1 k1
                    go_wp2_with fail
                    have hh := HH.out
                    refine (wget_r HE2 ha hh).mono ?_
                    rintro e_ w2 ⟨rfl, h2, k2⟩
                    replace HH := hid h2
                    replace kk := hid (kk.out.trans k2)
                    clear hh h2 k2
                    go_wp2_with fail
                    have hh := HH.out
                    refine (wget_r HE3 (uw_isW _) hh).mono ?_
                    rintro e_ w3 ⟨rfl, h3, k3⟩
                    replace HH := hid h3
                    replace kk := hid (kk.out.trans k3)
                    clear hh h3 k3
                    go_wp2_with fail
                    have hh := HH.out
                    refine (wput_r HE4 ha (uw_isW _) hh).mono ?_
                    rintro e_ w4 ⟨rfl, h4, k4⟩
                    replace HH := hid h4
                    replace kk := hid (kk.out.trans k4)
                    clear hh h4 k4
                    go_wp2_with fail
                    go_ret2
                    exact ⟨rfl, HH.out, kk.out⟩
            · skip
              have hs : s.take a n = ((0, e3), s3) := by
                unfold Wd.take Wd.takeN Wd.takeG Wd.free
                simp [eq1, eq2, eq3, hze3, hm]
              rw [hs]
              have HE1 : Hid (_ = _) := eq1
              have HE2 : Hid (_ = _) := eq2
              have HE3 : Hid (_ = _) := eq3
              clear hs eq1 eq2 eq3
              have kk : Hid (Keeps (two b g) w w) := Keeps.refl _ w
              go_enter Try.func36, Try.ntmps36
              go_wp2_with fail
              have hh := HH.out
              refine (wget_r HE1 (uw_isW _) hh).mono ?_
              rintro e_ w1 ⟨rfl, h1, k1⟩
              replace HH := hid h1
              replace kk := hid (kk.out.trans k1)
              clear hh h1 k1
              go_wp2_with fail
              have hh := HH.out
              refine (wget_r HE2 ha hh).mono ?_
              rintro e_ w2 ⟨rfl, h2, k2⟩
              replace HH := hid h2
              replace kk := hid (kk.out.trans k2)
              clear hh h2 k2
              go_wp2_with fail
              have hh := HH.out
              refine (wget_r HE3 (uw_isW _) hh).mono ?_
              rintro e_ w3 ⟨rfl, h3, k3⟩
              replace HH := hid h3
              replace kk := hid (kk.out.trans k3)
              clear hh h3 k3
              go_wp2_with fail
              go_ret2
              exact ⟨rfl, HH.out, kk.out⟩
          · skip
            have hs : s.take a n = ((0, e2), s2) := by
              unfold Wd.take Wd.takeN Wd.takeG Wd.free
              simp [eq1, eq2, hze2, hm]
            rw [hs]
            have HE1 : Hid (_ = _) := eq1
            have HE2 : Hid (_ = _) := eq2
            clear hs eq1 eq2
            have kk : Hid (Keeps (two b g) w w) := Keeps.refl _ w
            go_enter Try.func36, Try.ntmps36
            go_wp2_with fail
            have hh := HH.out
            refine (wget_r HE1 (uw_isW _) hh).mono ?_
            rintro e_ w1 ⟨rfl, h1, k1⟩
            replace HH := hid h1
            replace kk := hid (kk.out.trans k1)
            clear hh h1 k1
            go_wp2_with fail
            have hh := HH.out
            refine (wget_r HE2 ha hh).mono ?_
            rintro e_ w2 ⟨rfl, h2, k2⟩
            replace HH := hid h2
            replace kk := hid (kk.out.trans k2)
            clear hh h2 k2
            go_wp2_with fail
            go_ret2
            exact ⟨rfl, HH.out, kk.out⟩
        · skip
          obtain ⟨⟨⟨nx, e2⟩, s2⟩, eq2⟩ : ∃ r, s1.get (uw (x - 1)) = r := ⟨_, rfl⟩
          have hwnx : isW nx := get_isW eq2 oks1
          have oks2 : s2.Ok := by have q := (oks1.get (uw (x - 1))).1; rw [eq2] at q; exact q
          by_cases hze2 : e2 = 0
          · subst hze2
            obtain ⟨⟨e4, s4⟩, eq3⟩ : ∃ r, s2.put (hdA a n) (nx) = r := ⟨_, rfl⟩
            by_cases hze4 : e4 = 0
            · subst hze4
              have hs : s.take a n = ((uw (x - 1), 0), s4) := by
                unfold Wd.take Wd.takeN Wd.takeG Wd.free
                simp [eq1, eq2, eq3, hzx, hm]
              rw [hs]
              have HE1 : Hid (_ = _) := eq1
              have HE2 : Hid (_ = _) := eq2
              have HE3 : Hid (_ = _) := eq3
              clear hs eq1 eq2 eq3
              have kk : Hid (Keeps (two b g) w w) := Keeps.refl _ w
              go_enter Try.func36, Try.ntmps36
              go_wp2_with fail
              have hh := HH.out
              refine (wget_r HE1 (uw_isW _) hh).mono ?_
              rintro e_ w1 ⟨rfl, h1, k1⟩
              replace HH := hid h1
              replace kk := hid (kk.out.trans k1)
              clear hh h1 k1
              go_wp2_with fail
              have hh := HH.out
              refine (wget_r HE2 (uw_isW _) hh).mono ?_
              rintro e_ w2 ⟨rfl, h2, k2⟩
              replace HH := hid h2
              replace kk := hid (kk.out.trans k2)
              clear hh h2 k2
              go_wp2_with fail
              have hh := HH.out
              refine (wput_r HE3 (uw_isW _) hwnx hh).mono ?_
              rintro e_ w3 ⟨rfl, h3, k3⟩
              replace HH := hid h3
              replace kk := hid (kk.out.trans k3)
              clear hh h3 k3
              go_wp2_with fail
              go_ret2
              exact ⟨rfl, HH.out, kk.out⟩
            · skip
              have hs : s.take a n = ((0, e4), s4) := by
                unfold Wd.take Wd.takeN Wd.takeG Wd.free
                simp [eq1, eq2, eq3, hzx, hze4, hm]
              rw [hs]
              have HE1 : Hid (_ = _) := eq1
              have HE2 : Hid (_ = _) := eq2
              have HE3 : Hid (_ = _) := eq3
              clear hs eq1 eq2 eq3
              have kk : Hid (Keeps (two b g) w w) := Keeps.refl _ w
              go_enter Try.func36, Try.ntmps36
              go_wp2_with fail
              have hh := HH.out
              refine (wget_r HE1 (uw_isW _) hh).mono ?_
              rintro e_ w1 ⟨rfl, h1, k1⟩
              replace HH := hid h1
              replace kk := hid (kk.out.trans k1)
              clear hh h1 k1
              go_wp2_with fail
              have hh := HH.out
              refine (wget_r HE2 (uw_isW _) hh).mono ?_
              rintro e_ w2 ⟨rfl, h2, k2⟩
              replace HH := hid h2
              replace kk := hid (kk.out.trans k2)
              clear hh h2 k2
              go_wp2_with fail
              have hh := HH.out
              refine (wput_r HE3 (uw_isW _) hwnx hh).mono ?_
              rintro e_ w3 ⟨rfl, h3, k3⟩
              replace HH := hid h3
              replace kk := hid (kk.out.trans k3)
              clear hh h3 k3
              go_wp2_with fail
              go_ret2
              exact ⟨rfl, HH.out, kk.out⟩
          · skip
            have hs : s.take a n = ((0, e2), s2) := by
              unfold Wd.take Wd.takeN Wd.takeG Wd.free
              simp [eq1, eq2, hzx, hze2, hm]
            rw [hs]
            have HE1 : Hid (_ = _) := eq1
            have HE2 : Hid (_ = _) := eq2
            clear hs eq1 eq2
            have kk : Hid (Keeps (two b g) w w) := Keeps.refl _ w
            go_enter Try.func36, Try.ntmps36
            go_wp2_with fail
            have hh := HH.out
            refine (wget_r HE1 (uw_isW _) hh).mono ?_
            rintro e_ w1 ⟨rfl, h1, k1⟩
            replace HH := hid h1
            replace kk := hid (kk.out.trans k1)
            clear hh h1 k1
            go_wp2_with fail
            have hh := HH.out
            refine (wget_r HE2 (uw_isW _) hh).mono ?_
            rintro e_ w2 ⟨rfl, h2, k2⟩
            replace HH := hid h2
            replace kk := hid (kk.out.trans k2)
            clear hh h2 k2
            go_wp2_with fail
            go_ret2
            exact ⟨rfl, HH.out, kk.out⟩
      · skip
        have hs : s.take a n = ((0, e), s1) := by
          unfold Wd.take Wd.takeN Wd.takeG Wd.free
          simp [eq1, hze, hm]
        rw [hs]
        have HE1 : Hid (_ = _) := eq1
        clear hs eq1
        have kk : Hid (Keeps (two b g) w w) := Keeps.refl _ w
        go_enter Try.func36, Try.ntmps36
        go_wp2_with fail
        have hh := HH.out
        refine (wget_r HE1 (uw_isW _) hh).mono ?_
        rintro e_ w1 ⟨rfl, h1, k1⟩
        replace HH := hid h1
        replace kk := hid (kk.out.trans k1)
        clear hh h1 k1
        go_wp2_with fail
        go_ret2
        exact ⟨rfl, HH.out, kk.out⟩
theorem rtake_r {b g c : Nat} {s : Wd} {a n x1 e1 : Int} {s1 : Wd} (heq : Hid (s.take a n = ((x1, e1), s1))) (ha : isW a) {w : World} (h : WdAt w b g c s) :
    Calls Try.prog 36 #[.pointer (some ⟨b, 0, none⟩), .int .u64 a, .int .u64 n] w fun e w' => e = .returned (.tuple #[.int .u64 x1, .int .i64 e1]) ∧ WdAt w' b g c s1 ∧ Keeps (two b g) w w' := by
  have q := rtake_any b g c s a n ha w h
  rw [heq.out] at q
  exact q
end Go.Proofs.Ytadbplbifjeghaa
