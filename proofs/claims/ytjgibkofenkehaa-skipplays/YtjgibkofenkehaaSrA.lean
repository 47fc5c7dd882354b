
/- The walk of the document's Take (layer 22). No statement of the seat is proved here. -/
import Derived.Test.YtjgibkofenkehaaSkD
namespace Go.Proofs.Ytjgibkofenkehaa
open Go.RowKit

set_option maxHeartbeats 2000000 in
theorem rtake_any (b g c : Nat) (s : Wd) (a n : Int) (ha : isW a) (hm : mayN n) (rms : Rm s 4) (w : World) (h : WdAt 30 w b g c s) :
    Calls Try.prog 64 #[.pointer (some ⟨b, 0, none⟩), .int .u64 a, .int .u64 n] w fun e w' => e = .returned (.tuple #[.int .u64 (s.take a n).1.1, .int .i64 (s.take a n).1.2]) ∧ Hs 30 w b g c w' (s.take a n).2 := by
  have oks : s.Ok := h.ok
  have HH := hid (Hs.start h)
  clear h
  obtain ⟨⟨⟨x, e⟩, s1⟩, eq1⟩ : ∃ r, s.get (hdA a n) = r := ⟨_, rfl⟩
  have hwx : isW x := get_isW eq1 oks
  have oks1 : s1.Ok := by have q := (oks.get (hdA a n)).1; rw [eq1] at q; exact q
  have rms1 : Rm s1 3 := rms.get eq1
  by_cases hze : e = 0
  · subst hze
    by_cases hzx : x = 0
    · subst hzx
      obtain ⟨⟨⟨y, f⟩, s2⟩, eq2⟩ : ∃ r, s1.get (a) = r := ⟨_, rfl⟩
      have hwy : isW y := get_isW eq2 oks1
      have oks2 : s2.Ok := by have q := (oks1.get (a)).1; rw [eq2] at q; exact q
      have rms2 : Rm s2 2 := rms1.get eq2
      by_cases hzf : f = 0
      · subst hzf
        obtain ⟨⟨⟨z, h⟩, s3⟩, eq3⟩ : ∃ r, s2.get (endA a) = r := ⟨_, rfl⟩
        have hwz : isW z := get_isW eq3 oks2
        have oks3 : s3.Ok := by have q := (oks2.get (endA a)).1; rw [eq3] at q; exact q
        have rms3 : Rm s3 1 := rms2.get eq3
        by_cases hzh : h = 0
        · subst hzh
          by_cases hyz : y < z
          · skip
            by_cases hsz : uw (z - y) < n
            · skip
              have hsz' : IntKind.u64.wrap (z - y) < n := hsz
              have hyz' : ¬ z ≤ y := by omega
              have hs : s.take a n = ((0, 9), s3) := by
                unfold Wd.take
                simp [eq1, eq2, eq3, hyz, hsz, Wd.takeN, Wd.free, hm]
              rw [hs]
              have HE1 : Hid (_ = _) := eq1
              have HE2 : Hid (_ = _) := eq2
              have HE3 : Hid (_ = _) := eq3
              clear hs eq1 eq2 eq3
              go_enter Try.func64, Try.ntmps64
              go_wp2_with fail
              have hh := HH.out
              refine (wget_r HE1 (uw_isW _) (rms.le (by omega)) hh.wd).mono ?_
              rintro e_ w1 ⟨rfl, h1⟩
              replace HH := hid (hh.trans h1)
              clear hh h1
              go_wp2_with fail
              have hh := HH.out
              refine (wget_r HE2 ha (rms1.le (by omega)) hh.wd).mono ?_
              rintro e_ w2 ⟨rfl, h2⟩
              replace HH := hid (hh.trans h2)
              clear hh h2
              go_wp2_with fail
              have hh := HH.out
              refine (wget_r HE3 (uw_isW _) (rms2.le (by omega)) hh.wd).mono ?_
              rintro e_ w3 ⟨rfl, h3⟩
              replace HH := hid (hh.trans h3)
              clear hh h3
              go_wp2_with fail
              go_ret2
              exact ⟨rfl, HH.out⟩
            · skip
              have hsz' : ¬ IntKind.u64.wrap (z - y) < n := hsz
              have hyz' : ¬ z ≤ y := by omega
              obtain ⟨⟨i, s4⟩, eq4⟩ : ∃ r, s3.put (a) (uw (y + n)) = r := ⟨_, rfl⟩
              have oks4 : s4.Ok := by have q := oks3.put (a) ((uw_isW _) : isW (uw (y + n))); rw [eq4] at q; exact q
              have rms4 : Rm s4 0 := rms3.put eq4
              by_cases hzi : i = 0
              · subst hzi
                have hs : s.take a n = ((y, 0), s4) := by
                  unfold Wd.take
                  simp [eq1, eq2, eq3, eq4, hyz, hsz, Wd.takeN, Wd.free, hm]
                rw [hs]
                have HE1 : Hid (_ = _) := eq1
                have HE2 : Hid (_ = _) := eq2
                have HE3 : Hid (_ = _) := eq3
                have HE4 : Hid (_ = _) := eq4
                clear hs eq1 eq2 eq3 eq4
                go_enter Try.func64, Try.ntmps64
                go_wp2_with fail
                have hh := HH.out
                refine (wget_r HE1 (uw_isW _) (rms.le (by omega)) hh.wd).mono ?_
                rintro e_ w1 ⟨rfl, h1⟩
                replace HH := hid (hh.trans h1)
                clear hh h1
                go_wp2_with fail
                have hh := HH.out
                refine (wget_r HE2 ha (rms1.le (by omega)) hh.wd).mono ?_
                rintro e_ w2 ⟨rfl, h2⟩
                replace HH := hid (hh.trans h2)
                clear hh h2
                go_wp2_with fail
                have hh := HH.out
                refine (wget_r HE3 (uw_isW _) (rms2.le (by omega)) hh.wd).mono ?_
                rintro e_ w3 ⟨rfl, h3⟩
                replace HH := hid (hh.trans h3)
                clear hh h3
                go_wp2_with fail
                have hh := HH.out
                refine (wput_r HE4 ha (uw_isW _) (rms3.le (by omega)) hh.wd).mono ?_
                rintro e_ w4 ⟨rfl, h4⟩
                replace HH := hid (hh.trans h4)
                clear hh h4
                go_wp2_with fail
                go_ret2
                exact ⟨rfl, HH.out⟩
              · skip
                have hs : s.take a n = ((0, i), s4) := by
                  unfold Wd.take
                  simp [eq1, eq2, eq3, eq4, hyz, hsz, hzi, Wd.takeN, Wd.free, hm]
                rw [hs]
                have HE1 : Hid (_ = _) := eq1
                have HE2 : Hid (_ = _) := eq2
                have HE3 : Hid (_ = _) := eq3
                have HE4 : Hid (_ = _) := eq4
                clear hs eq1 eq2 eq3 eq4
                go_enter Try.func64, Try.ntmps64
                go_wp2_with fail
                have hh := HH.out
                refine (wget_r HE1 (uw_isW _) (rms.le (by omega)) hh.wd).mono ?_
                rintro e_ w1 ⟨rfl, h1⟩
                replace HH := hid (hh.trans h1)
                clear hh h1
                go_wp2_with fail
                have hh := HH.out
                refine (wget_r HE2 ha (rms1.le (by omega)) hh.wd).mono ?_
                rintro e_ w2 ⟨rfl, h2⟩
                replace HH := hid (hh.trans h2)
                clear hh h2
                go_wp2_with fail
                have hh := HH.out
                refine (wget_r HE3 (uw_isW _) (rms2.le (by omega)) hh.wd).mono ?_
                rintro e_ w3 ⟨rfl, h3⟩
                replace HH := hid (hh.trans h3)
                clear hh h3
                go_wp2_with fail
                have hh := HH.out
                refine (wput_r HE4 ha (uw_isW _) (rms3.le (by omega)) hh.wd).mono ?_
                rintro e_ w4 ⟨rfl, h4⟩
                replace HH := hid (hh.trans h4)
                clear hh h4
                go_wp2_with fail
                go_ret2
                exact ⟨rfl, HH.out⟩
          · skip
            have hn0 : 0 < n := by have := hm.1; omega
            have hyz' : z ≤ y := by omega
            have hs : s.take a n = ((0, 9), s3) := by
              unfold Wd.take
              simp [eq1, eq2, eq3, hyz, Wd.takeN, Wd.free, hm, hn0]
            rw [hs]
            have HE1 : Hid (_ = _) := eq1
            have HE2 : Hid (_ = _) := eq2
            have HE3 : Hid (_ = _) := eq3
            clear hs eq1 eq2 eq3
            go_enter Try.func64, Try.ntmps64
            go_wp2_with fail
            have hh := HH.out
            refine (wget_r HE1 (uw_isW _) (rms.le (by omega)) hh.wd).mono ?_
            rintro e_ w1 ⟨rfl, h1⟩
            replace HH := hid (hh.trans h1)
            clear hh h1
            go_wp2_with fail
            have hh := HH.out
            refine (wget_r HE2 ha (rms1.le (by omega)) hh.wd).mono ?_
            rintro e_ w2 ⟨rfl, h2⟩
            replace HH := hid (hh.trans h2)
            clear hh h2
            go_wp2_with fail
            have hh := HH.out
            refine (wget_r HE3 (uw_isW _) (rms2.le (by omega)) hh.wd).mono ?_
            rintro e_ w3 ⟨rfl, h3⟩
            replace HH := hid (hh.trans h3)
            clear hh h3
            go_wp2_with fail
            go_ret2
            exact ⟨rfl, HH.out⟩
        · skip
          have hs : s.take a n = ((0, h), s3) := by
            unfold Wd.take
            simp [eq1, eq2, eq3, hzh, Wd.takeN, Wd.free, hm]
          rw [hs]
          have HE1 : Hid (_ = _) := eq1
          have HE2 : Hid (_ = _) := eq2
          have HE3 : Hid (_ = _) := eq3
          clear hs eq1 eq2 eq3
          go_enter Try.func64, Try.ntmps64
          go_wp2_with fail
          have hh := HH.out
          refine (wget_r HE1 (uw_isW _) (rms.le (by omega)) hh.wd).mono ?_
          rintro e_ w1 ⟨rfl, h1⟩
          replace HH := hid (hh.trans h1)
          clear hh h1
          go_wp2_with fail
          have hh := HH.out
          refine (wget_r HE2 ha (rms1.le (by omega)) hh.wd).mono ?_
          rintro e_ w2 ⟨rfl, h2⟩
          replace HH := hid (hh.trans h2)
          clear hh h2
          go_wp2_with fail
          have hh := HH.out
          refine (wget_r HE3 (uw_isW _) (rms2.le (by omega)) hh.wd).mono ?_
          rintro e_ w3 ⟨rfl, h3⟩
          replace HH := hid (hh.trans h3)
          clear hh h3
          go_wp2_with fail
          go_ret2
          exact ⟨rfl, HH.out⟩
      · skip
        have hs : s.take a n = ((0, f), s2) := by
          unfold Wd.take
          simp [eq1, eq2, hzf, Wd.takeN, Wd.free, hm]
        rw [hs]
        have HE1 : Hid (_ = _) := eq1
        have HE2 : Hid (_ = _) := eq2
        clear hs eq1 eq2
        go_enter Try.func64, Try.ntmps64
        go_wp2_with fail
        have hh := HH.out
        refine (wget_r HE1 (uw_isW _) (rms.le (by omega)) hh.wd).mono ?_
        rintro e_ w1 ⟨rfl, h1⟩
        replace HH := hid (hh.trans h1)
        clear hh h1
        go_wp2_with fail
        have hh := HH.out
        refine (wget_r HE2 ha (rms1.le (by omega)) hh.wd).mono ?_
        rintro e_ w2 ⟨rfl, h2⟩
        replace HH := hid (hh.trans h2)
        clear hh h2
        go_wp2_with fail
        go_ret2
        exact ⟨rfl, HH.out⟩
    · skip
      obtain ⟨⟨⟨y, f⟩, s2⟩, eq2⟩ : ∃ r, s1.get (uw (x - 1)) = r := ⟨_, rfl⟩
      have hwy : isW y := get_isW eq2 oks1
      have oks2 : s2.Ok := by have q := (oks1.get (uw (x - 1))).1; rw [eq2] at q; exact q
      have rms2 : Rm s2 2 := rms1.get eq2
      by_cases hzf : f = 0
      · subst hzf
        obtain ⟨⟨i, s3⟩, eq3⟩ : ∃ r, s2.put (hdA a n) (y) = r := ⟨_, rfl⟩
        have oks3 : s3.Ok := by have q := oks2.put (hdA a n) (hwy : isW (y)); rw [eq3] at q; exact q
        have rms3 : Rm s3 1 := rms2.put eq3
        by_cases hzi : i = 0
        · subst hzi
          have hs : s.take a n = ((uw (x - 1), 0), s3) := by
            unfold Wd.take
            simp [eq1, eq2, eq3, hzx, Wd.takeG, hm]
          rw [hs]
          have HE1 : Hid (_ = _) := eq1
          have HE2 : Hid (_ = _) := eq2
          have HE3 : Hid (_ = _) := eq3
          clear hs eq1 eq2 eq3
          go_enter Try.func64, Try.ntmps64
          go_wp2_with fail
          have hh := HH.out
          refine (wget_r HE1 (uw_isW _) (rms.le (by omega)) hh.wd).mono ?_
          rintro e_ w1 ⟨rfl, h1⟩
          replace HH := hid (hh.trans h1)
          clear hh h1
          go_wp2_with fail
          have hh := HH.out
          refine (wget_r HE2 (uw_isW _) (rms1.le (by omega)) hh.wd).mono ?_
          rintro e_ w2 ⟨rfl, h2⟩
          replace HH := hid (hh.trans h2)
          clear hh h2
          go_wp2_with fail
          have hh := HH.out
          refine (wput_r HE3 (uw_isW _) hwy (rms2.le (by omega)) hh.wd).mono ?_
          rintro e_ w3 ⟨rfl, h3⟩
          replace HH := hid (hh.trans h3)
          clear hh h3
          go_wp2_with fail
          go_ret2
          exact ⟨rfl, HH.out⟩
        · skip
          have hs : s.take a n = ((0, i), s3) := by
            unfold Wd.take
            simp [eq1, eq2, eq3, hzx, hzi, Wd.takeG, hm]
          rw [hs]
          have HE1 : Hid (_ = _) := eq1
          have HE2 : Hid (_ = _) := eq2
          have HE3 : Hid (_ = _) := eq3
          clear hs eq1 eq2 eq3
          go_enter Try.func64, Try.ntmps64
          go_wp2_with fail
          have hh := HH.out
          refine (wget_r HE1 (uw_isW _) (rms.le (by omega)) hh.wd).mono ?_
          rintro e_ w1 ⟨rfl, h1⟩
          replace HH := hid (hh.trans h1)
          clear hh h1
          go_wp2_with fail
          have hh := HH.out
          refine (wget_r HE2 (uw_isW _) (rms1.le (by omega)) hh.wd).mono ?_
          rintro e_ w2 ⟨rfl, h2⟩
          replace HH := hid (hh.trans h2)
          clear hh h2
          go_wp2_with fail
          have hh := HH.out
          refine (wput_r HE3 (uw_isW _) hwy (rms2.le (by omega)) hh.wd).mono ?_
          rintro e_ w3 ⟨rfl, h3⟩
          replace HH := hid (hh.trans h3)
          clear hh h3
          go_wp2_with fail
          go_ret2
          exact ⟨rfl, HH.out⟩
      · skip
        have hs : s.take a n = ((0, f), s2) := by
          unfold Wd.take
          simp [eq1, eq2, hzx, hzf, Wd.takeG, hm]
        rw [hs]
        have HE1 : Hid (_ = _) := eq1
        have HE2 : Hid (_ = _) := eq2
        clear hs eq1 eq2
        go_enter Try.func64, Try.ntmps64
        go_wp2_with fail
        have hh := HH.out
        refine (wget_r HE1 (uw_isW _) (rms.le (by omega)) hh.wd).mono ?_
        rintro e_ w1 ⟨rfl, h1⟩
        replace HH := hid (hh.trans h1)
        clear hh h1
        go_wp2_with fail
        have hh := HH.out
        refine (wget_r HE2 (uw_isW _) (rms1.le (by omega)) hh.wd).mono ?_
        rintro e_ w2 ⟨rfl, h2⟩
        replace HH := hid (hh.trans h2)
        clear hh h2
        go_wp2_with fail
        go_ret2
        exact ⟨rfl, HH.out⟩
  · skip
    have hs : s.take a n = ((0, e), s1) := by
      unfold Wd.take
      simp [eq1, hze, hm]
    rw [hs]
    have HE1 : Hid (_ = _) := eq1
    clear hs eq1
    go_enter Try.func64, Try.ntmps64
    go_wp2_with fail
    have hh := HH.out
    refine (wget_r HE1 (uw_isW _) (rms.le (by omega)) hh.wd).mono ?_
    rintro e_ w1 ⟨rfl, h1⟩
    replace HH := hid (hh.trans h1)
    clear hh h1
    go_wp2_with fail
    go_ret2
    exact ⟨rfl, HH.out⟩
theorem rtake_r {b g c : Nat} {s : Wd} {a n : Int} {x1 e1 : Int} {s1 : Wd} (heq : Hid (s.take a n = ((x1, e1), s1))) (ha : isW a) (hm : mayN n) (rms : Rm s 4) {w : World} (h : WdAt 30 w b g c s) :
    Calls Try.prog 64 #[.pointer (some ⟨b, 0, none⟩), .int .u64 a, .int .u64 n] w fun e w' => e = .returned (.tuple #[.int .u64 x1, .int .i64 e1]) ∧ Hs 30 w b g c w' s1 := by
  have q := rtake_any b g c s a n ha hm rms w h
  rw [heq.out] at q
  exact q
end Go.Proofs.Ytjgibkofenkehaa
