/-
  No statement of the seat is proved here. (Several texts in one: SrA, SrAb, SrAc.)
-/
import Derived.Test.YtjgibkofenkehaaSkD
import Derived.Test.YtjgibkofenkehaaSkLM
import Derived.Test.YtjgibkofenkehaaSkF

/- The walk of the document's Take (layer 22). No statement of the seat is proved here. -/
namespace Go.Proofs.Ytjgibkofenkehaa
open Go.RowKit

set_option maxHeartbeats 2000000 in
theorem rtake_any (b g c : Nat) (s : Wd) (a n : Int) (ha : isW a) (hm : mayN n) (rms : Rm s 4) (w : World) (h : WdAt 30 w b g c s) :
    Calls Try.prog 64 #[.pointer (some ⟨b, 0, none⟩), .int .u64 a, .int .u64 n] w fun e w' => e = .returned (.tuple #[.int .u64 (s.take a n).1.1, .int .i64 (s.take a n).1.2]) ∧ Hs 30 w b g c w' (s.take a n).2 := by
  have oks : s.Ok := h.ok
  have HH := hid (Hs.start h)
  clear h
  obtain ⟨⟨⟨x, e⟩, s1⟩, eq1⟩ : ∃ r, s.get (hdA a n) = r := ⟨_, rfl⟩
  have hwx : isW x := get_isW eq1 oks
  have oks1 : s1.Ok := by have q := (oks.get (hdA a n)).1; rw [eq1] at q; exact q
  have rms1 : Rm s1 3 := rms.get eq1
  by_cases hze : e = 0
  · subst hze
    by_cases hzx : x = 0
    · subst hzx
      obtain ⟨⟨⟨y, f⟩, s2⟩, eq2⟩ : ∃ r, s1.get (a) = r := ⟨_, rfl⟩
      have hwy : isW y := get_isW eq2 oks1
      have oks2 : s2.Ok := by have q := (oks1.get (a)).1; rw [eq2] at q; exact q
      have rms2 : Rm s2 2 := rms1.get eq2
      by_cases hzf : f = 0
      · subst hzf
        obtain ⟨⟨⟨z, h⟩, s3⟩, eq3⟩ : ∃ r, s2.get (endA a) = r := ⟨_, rfl⟩
        have hwz : isW z := get_isW eq3 oks2
        have oks3 : s3.Ok := by have q := (oks2.get (endA a)).1; rw [eq3] at q; exact q
        have rms3 : Rm s3 1 := rms2.get eq3
        by_cases hzh : h = 0
        · subst hzh
          by_cases hyz : y < z
          · skip
            by_cases hsz : uw (z - y) < n
            · skip
              have hsz' : IntKind.u64.wrap (z - y) < n := hsz
              have hyz' : ¬ z ≤ y := by omega
              have hs : s.take a n = ((0, 9), s3) := by
                unfold Wd.take
                simp [eq1, eq2, eq3, hyz, hsz, Wd.takeN, Wd.free, hm]
              rw [hs]
              have HE1 : Hid (_ = _) := eq1
              have HE2 : Hid (_ = _) := eq2
              have HE3 : Hid (_ = _) := eq3
              clear hs eq1 eq2 eq3
              go_enter Try.func64, Try.ntmps64
              go_wp2_with fail
              have hh := HH.out
              refine (wget_r HE1 (uw_isW _) (rms.le (by omega)) hh.wd).mono ?_
              rintro e_ w1 ⟨rfl, h1⟩
              replace HH := hid (hh.trans h1)
              clear hh h1
              go_wp2_with fail
              have hh := HH.out
              refine (wget_r HE2 ha (rms1.le (by omega)) hh.wd).mono ?_
              rintro e_ w2 ⟨rfl, h2⟩
              replace HH := hid (hh.trans h2)
              clear hh h2
              go_wp2_with fail
              have hh := HH.out
              refine (wget_r HE3 (uw_isW _) (rms2.le (by omega)) hh.wd).mono ?_
              rintro e_ w3 ⟨rfl, h3⟩
              replace HH := hid (hh.trans h3)
              clear hh h3
              go_wp2_with fail
              go_ret2
              exact ⟨rfl, HH.out⟩
            · skip
              have hsz' : ¬ IntKind.u64.wrap (z - y) < n := hsz
              have hyz' : ¬ z ≤ y := by omega
              obtain ⟨⟨i, s4⟩, eq4⟩ : ∃ r, s3.put (a) (uw (y + n)) = r := ⟨_, rfl⟩
              have oks4 : s4.Ok := by have q := oks3.put (a) ((uw_isW _) : isW (uw (y + n))); rw [eq4] at q; exact q
              have rms4 : Rm s4 0 := rms3.put eq4
              by_cases hzi : i = 0
              · subst hzi
                have hs : s.take a n = ((y, 0), s4) := by
                  unfold Wd.take
                  simp [eq1, eq2, eq3, eq4, hyz, hsz, Wd.takeN, Wd.free, hm]
                rw [hs]
                have HE1 : Hid (_ = _) := eq1
                have HE2 : Hid (_ = _) := eq2
                have HE3 : Hid (_ = _) := eq3
                have HE4 : Hid (_ = _) := eq4
                clear hs eq1 eq2 eq3 eq4
                go_enter Try.func64, Try.ntmps64
                go_wp2_with fail
                have hh := HH.out
                refine (wget_r HE1 (uw_isW _) (rms.le (by omega)) hh.wd).mono ?_
                rintro e_ w1 ⟨rfl, h1⟩
                replace HH := hid (hh.trans h1)
                clear hh h1
                go_wp2_with fail
                have hh := HH.out
                refine (wget_r HE2 ha (rms1.le (by omega)) hh.wd).mono ?_
                rintro e_ w2 ⟨rfl, h2⟩
                replace HH := hid (hh.trans h2)
                clear hh h2
                go_wp2_with fail
                have hh := HH.out
                refine (wget_r HE3 (uw_isW _) (rms2.le (by omega)) hh.wd).mono ?_
                rintro e_ w3 ⟨rfl, h3⟩
                replace HH := hid (hh.trans h3)
                clear hh h3
                go_wp2_with fail
                have hh := HH.out
                refine (wput_r HE4 ha (uw_isW _) (rms3.le (by omega)) hh.wd).mono ?_
                rintro e_ w4 ⟨rfl, h4⟩
                replace HH := hid (hh.trans h4)
                clear hh h4
                go_wp2_with fail
                go_ret2
                exact ⟨rfl, HH.out⟩
              · skip
                have hs : s.take a n = ((0, i), s4) := by
                  unfold Wd.take
                  simp [eq1, eq2, eq3, eq4, hyz, hsz, hzi, Wd.takeN, Wd.free, hm]
                rw [hs]
                have HE1 : Hid (_ = _) := eq1
                have HE2 : Hid (_ = _) := eq2
                have HE3 : Hid (_ = _) := eq3
                have HE4 : Hid (_ = _) := eq4
                clear hs eq1 eq2 eq3 eq4
                go_enter Try.func64, Try.ntmps64
                go_wp2_with fail
                have hh := HH.out
                refine (wget_r HE1 (uw_isW _) (rms.le (by omega)) hh.wd).mono ?_
                rintro e_ w1 ⟨rfl, h1⟩
                replace HH := hid (hh.trans h1)
                clear hh h1
                go_wp2_with fail
                have hh := HH.out
                refine (wget_r HE2 ha (rms1.le (by omega)) hh.wd).mono ?_
                rintro e_ w2 ⟨rfl, h2⟩
                replace HH := hid (hh.trans h2)
                clear hh h2
                go_wp2_with fail
                have hh := HH.out
                refine (wget_r HE3 (uw_isW _) (rms2.le (by omega)) hh.wd).mono ?_
                rintro e_ w3 ⟨rfl, h3⟩
                replace HH := hid (hh.trans h3)
                clear hh h3
                go_wp2_with fail
                have hh := HH.out
                refine (wput_r HE4 ha (uw_isW _) (rms3.le (by omega)) hh.wd).mono ?_
                rintro e_ w4 ⟨rfl, h4⟩
                replace HH := hid (hh.trans h4)
                clear hh h4
                go_wp2_with fail
                go_ret2
                exact ⟨rfl, HH.out⟩
          · skip
            have hn0 : 0 < n := by have := hm.1; omega
            have hyz' : z ≤ y := by omega
            have hs : s.take a n = ((0, 9), s3) := by
              unfold Wd.take
              simp [eq1, eq2, eq3, hyz, Wd.takeN, Wd.free, hm, hn0]
            rw [hs]
            have HE1 : Hid (_ = _) := eq1
            have HE2 : Hid (_ = _) := eq2
            have HE3 : Hid (_ = _) := eq3
            clear hs eq1 eq2 eq3
            go_enter Try.func64, Try.ntmps64
            go_wp2_with fail
            have hh := HH.out
            refine (wget_r HE1 (uw_isW _) (rms.le (by omega)) hh.wd).mono ?_
            rintro e_ w1 ⟨rfl, h1⟩
            replace HH := hid (hh.trans h1)
            clear hh h1
            go_wp2_with fail
            have hh := HH.out
            refine (wget_r HE2 ha (rms1.le (by omega)) hh.wd).mono ?_
            rintro e_ w2 ⟨rfl, h2⟩
            replace HH := hid (hh.trans h2)
            clear hh h2
            go_wp2_with fail
            have hh := HH.out
            refine (wget_r HE3 (uw_isW _) (rms2.le (by omega)) hh.wd).mono ?_
            rintro e_ w3 ⟨rfl, h3⟩
            replace HH := hid (hh.trans h3)
            clear hh h3
            go_wp2_with fail
            go_ret2
            exact ⟨rfl, HH.out⟩
        · skip
          have hs : s.take a n = ((0, h), s3) := by
            unfold Wd.take
            simp [eq1, eq2, eq3, hzh, Wd.takeN, Wd.free, hm]
          rw [hs]
          have HE1 : Hid (_ = _) := eq1
          have HE2 : Hid (_ = _) := eq2
          have HE3 : Hid (_ = _) := eq3
          clear hs eq1 eq2 eq3
          go_enter Try.func64, Try.ntmps64
          go_wp2_with fail
          have hh := HH.out
          refine (wget_r HE1 (uw_isW _) (rms.le (by omega)) hh.wd).mono ?_
          rintro e_ w1 ⟨rfl, h1⟩
          replace HH := hid (hh.trans h1)
          clear hh h1
          go_wp2_with fail
          have hh := HH.out
          refine (wget_r HE2 ha (rms1.le (by omega)) hh.wd).mono ?_
          rintro e_ w2 ⟨rfl, h2⟩
          replace HH := hid (hh.trans h2)
          clear hh h2
          go_wp2_with fail
          have hh := HH.out
          refine (wget_r HE3 (uw_isW _) (rms2.le (by omega)) hh.wd).mono ?_
          rintro e_ w3 ⟨rfl, h3⟩
          replace HH := hid (hh.trans h3)
          clear hh h3
          go_wp2_with fail
          go_ret2
          exact ⟨rfl, HH.out⟩
      · skip
        have hs : s.take a n = ((0, f), s2) := by
          unfold Wd.take
          simp [eq1, eq2, hzf, Wd.takeN, Wd.free, hm]
        rw [hs]
        have HE1 : Hid (_ = _) := eq1
        have HE2 : Hid (_ = _) := eq2
        clear hs eq1 eq2
        go_enter Try.func64, Try.ntmps64
        go_wp2_with fail
        have hh := HH.out
        refine (wget_r HE1 (uw_isW _) (rms.le (by omega)) hh.wd).mono ?_
        rintro e_ w1 ⟨rfl, h1⟩
        replace HH := hid (hh.trans h1)
        clear hh h1
        go_wp2_with fail
        have hh := HH.out
        refine (wget_r HE2 ha (rms1.le (by omega)) hh.wd).mono ?_
        rintro e_ w2 ⟨rfl, h2⟩
        replace HH := hid (hh.trans h2)
        clear hh h2
        go_wp2_with fail
        go_ret2
        exact ⟨rfl, HH.out⟩
    · skip
      obtain ⟨⟨⟨y, f⟩, s2⟩, eq2⟩ : ∃ r, s1.get (uw (x - 1)) = r := ⟨_, rfl⟩
      have hwy : isW y := get_isW eq2 oks1
      have oks2 : s2.Ok := by have q := (oks1.get (uw (x - 1))).1; rw [eq2] at q; exact q
      have rms2 : Rm s2 2 := rms1.get eq2
      by_cases hzf : f = 0
      · subst hzf
        obtain ⟨⟨i, s3⟩, eq3⟩ : ∃ r, s2.put (hdA a n) (y) = r := ⟨_, rfl⟩
        have oks3 : s3.Ok := by have q := oks2.put (hdA a n) (hwy : isW (y)); rw [eq3] at q; exact q
        have rms3 : Rm s3 1 := rms2.put eq3
        by_cases hzi : i = 0
        · subst hzi
          have hs : s.take a n = ((uw (x - 1), 0), s3) := by
            unfold Wd.take
            simp [eq1, eq2, eq3, hzx, Wd.takeG, hm]
          rw [hs]
          have HE1 : Hid (_ = _) := eq1
          have HE2 : Hid (_ = _) := eq2
          have HE3 : Hid (_ = _) := eq3
          clear hs eq1 eq2 eq3
          go_enter Try.func64, Try.ntmps64
          go_wp2_with fail
          have hh := HH.out
          refine (wget_r HE1 (uw_isW _) (rms.le (by omega)) hh.wd).mono ?_
          rintro e_ w1 ⟨rfl, h1⟩
          replace HH := hid (hh.trans h1)
          clear hh h1
          go_wp2_with fail
          have hh := HH.out
          refine (wget_r HE2 (uw_isW _) (rms1.le (by omega)) hh.wd).mono ?_
          rintro e_ w2 ⟨rfl, h2⟩
          replace HH := hid (hh.trans h2)
          clear hh h2
          go_wp2_with fail
          have hh := HH.out
          refine (wput_r HE3 (uw_isW _) hwy (rms2.le (by omega)) hh.wd).mono ?_
          rintro e_ w3 ⟨rfl, h3⟩
          replace HH := hid (hh.trans h3)
          clear hh h3
          go_wp2_with fail
          go_ret2
          exact ⟨rfl, HH.out⟩
        · skip
          have hs : s.take a n = ((0, i), s3) := by
            unfold Wd.take
            simp [eq1, eq2, eq3, hzx, hzi, Wd.takeG, hm]
          rw [hs]
          have HE1 : Hid (_ = _) := eq1
          have HE2 : Hid (_ = _) := eq2
          have HE3 : Hid (_ = _) := eq3
          clear hs eq1 eq2 eq3
          go_enter Try.func64, Try.ntmps64
          go_wp2_with fail
          have hh := HH.out
          refine (wget_r HE1 (uw_isW _) (rms.le (by omega)) hh.wd).mono ?_
          rintro e_ w1 ⟨rfl, h1⟩
          replace HH := hid (hh.trans h1)
          clear hh h1
          go_wp2_with fail
          have hh := HH.out
          refine (wget_r HE2 (uw_isW _) (rms1.le (by omega)) hh.wd).mono ?_
          rintro e_ w2 ⟨rfl, h2⟩
          replace HH := hid (hh.trans h2)
          clear hh h2
          go_wp2_with fail
          have hh := HH.out
          refine (wput_r HE3 (uw_isW _) hwy (rms2.le (by omega)) hh.wd).mono ?_
          rintro e_ w3 ⟨rfl, h3⟩
          replace HH := hid (hh.trans h3)
          clear hh h3
          go_wp2_with fail
          go_ret2
          exact ⟨rfl, HH.out⟩
      · skip
        have hs : s.take a n = ((0, f), s2) := by
          unfold Wd.take
          simp [eq1, eq2, hzx, hzf, Wd.takeG, hm]
        rw [hs]
        have HE1 : Hid (_ = _) := eq1
        have HE2 : Hid (_ = _) := eq2
        clear hs eq1 eq2
        go_enter Try.func64, Try.ntmps64
        go_wp2_with fail
        have hh := HH.out
        refine (wget_r HE1 (uw_isW _) (rms.le (by omega)) hh.wd).mono ?_
        rintro e_ w1 ⟨rfl, h1⟩
        replace HH := hid (hh.trans h1)
        clear hh h1
        go_wp2_with fail
        have hh := HH.out
        refine (wget_r HE2 (uw_isW _) (rms1.le (by omega)) hh.wd).mono ?_
        rintro e_ w2 ⟨rfl, h2⟩
        replace HH := hid (hh.trans h2)
        clear hh h2
        go_wp2_with fail
        go_ret2
        exact ⟨rfl, HH.out⟩
  · skip
    have hs : s.take a n = ((0, e), s1) := by
      unfold Wd.take
      simp [eq1, hze, hm]
    rw [hs]
    have HE1 : Hid (_ = _) := eq1
    clear hs eq1
    go_enter Try.func64, Try.ntmps64
    go_wp2_with fail
    have hh := HH.out
    refine (wget_r HE1 (uw_isW _) (rms.le (by omega)) hh.wd).mono ?_
    rintro e_ w1 ⟨rfl, h1⟩
    replace HH := hid (hh.trans h1)
    clear hh h1
    go_wp2_with fail
    go_ret2
    exact ⟨rfl, HH.out⟩
theorem rtake_r {b g c : Nat} {s : Wd} {a n : Int} {x1 e1 : Int} {s1 : Wd} (heq : Hid (s.take a n = ((x1, e1), s1))) (ha : isW a) (hm : mayN n) (rms : Rm s 4) {w : World} (h : WdAt 30 w b g c s) :
    Calls Try.prog 64 #[.pointer (some ⟨b, 0, none⟩), .int .u64 a, .int .u64 n] w fun e w' => e = .returned (.tuple #[.int .u64 x1, .int .i64 e1]) ∧ Hs 30 w b g c w' s1 := by
  have q := rtake_any b g c s a n ha hm rms w h
  rw [heq.out] at q
  exact q
end Go.Proofs.Ytjgibkofenkehaa


/- The walks of the document's Give, Lay and New (layer 22). No statement of the seat is proved here. -/
namespace Go.Proofs.Ytjgibkofenkehaa
open Go.RowKit

set_option maxHeartbeats 2000000 in
theorem rgive_any (b g c : Nat) (s : Wd) (a p n : Int) (hp : isW p) (hm : mayN n) (rms : Rm s 3) (w : World) (h : WdAt 30 w b g c s) :
    Calls Try.prog 68 #[.pointer (some ⟨b, 0, none⟩), .int .u64 a, .int .u64 p, .int .u64 n] w fun e w' => e = .returned (.int .i64 (s.give a p n).1) ∧ Hs 30 w b g c w' (s.give a p n).2 := by
  have oks : s.Ok := h.ok
  have HH := hid (Hs.start h)
  clear h
  obtain ⟨⟨⟨x, e⟩, s1⟩, eq1⟩ : ∃ r, s.get (hdA a n) = r := ⟨_, rfl⟩
  have hwx : isW x := get_isW eq1 oks
  have oks1 : s1.Ok := by have q := (oks.get (hdA a n)).1; rw [eq1] at q; exact q
  have rms1 : Rm s1 2 := rms.get eq1
  by_cases hze : e = 0
  · subst hze
    obtain ⟨⟨f, s2⟩, eq2⟩ : ∃ r, s1.put (p) (x) = r := ⟨_, rfl⟩
    have oks2 : s2.Ok := by have q := oks1.put (p) (hwx : isW (x)); rw [eq2] at q; exact q
    have rms2 : Rm s2 1 := rms1.put eq2
    by_cases hzf : f = 0
    · subst hzf
      obtain ⟨⟨f2, s3⟩, eq3⟩ : ∃ r, s2.put (hdA a n) (uw (p + 1)) = r := ⟨_, rfl⟩
      have oks3 : s3.Ok := by have q := oks2.put (hdA a n) ((uw_isW _) : isW (uw (p + 1))); rw [eq3] at q; exact q
      have rms3 : Rm s3 0 := rms2.put eq3
      have hs : s.give a p n = (f2, s3) := by
        unfold Wd.give
        simp [eq1, eq2, eq3, hm]
      rw [hs]
      have HE1 : Hid (_ = _) := eq1
      have HE2 : Hid (_ = _) := eq2
      have HE3 : Hid (_ = _) := eq3
      clear hs eq1 eq2 eq3
      go_enter Try.func68, Try.ntmps68
      go_wp2_with fail
      have hh := HH.out
      refine (wget_r HE1 (uw_isW _) (rms.le (by omega)) hh.wd).mono ?_
      rintro e_ w1 ⟨rfl, h1⟩
      replace HH := hid (hh.trans h1)
      clear hh h1
      go_wp2_with fail
      have hh := HH.out
      refine (wput_r HE2 hp hwx (rms1.le (by omega)) hh.wd).mono ?_
      rintro e_ w2 ⟨rfl, h2⟩
      replace HH := hid (hh.trans h2)
      clear hh h2
      go_wp2_with fail
      have hh := HH.out
      refine (wput_r HE3 (uw_isW _) (uw_isW _) (rms2.le (by omega)) hh.wd).mono ?_
      rintro e_ w3 ⟨rfl, h3⟩
      replace HH := hid (hh.trans h3)
      clear hh h3
      go_wp2_with fail
      go_ret
      exact ⟨rfl, HH.out⟩
    · skip
      have hs : s.give a p n = (f, s2) := by
        unfold Wd.give
        simp [eq1, eq2, hzf, hm]
      rw [hs]
      have HE1 : Hid (_ = _) := eq1
      have HE2 : Hid (_ = _) := eq2
      clear hs eq1 eq2
      go_enter Try.func68, Try.ntmps68
      go_wp2_with fail
      have hh := HH.out
      refine (wget_r HE1 (uw_isW _) (rms.le (by omega)) hh.wd).mono ?_
      rintro e_ w1 ⟨rfl, h1⟩
      replace HH := hid (hh.trans h1)
      clear hh h1
      go_wp2_with fail
      have hh := HH.out
      refine (wput_r HE2 hp hwx (rms1.le (by omega)) hh.wd).mono ?_
      rintro e_ w2 ⟨rfl, h2⟩
      replace HH := hid (hh.trans h2)
      clear hh h2
      go_wp2_with fail
      go_ret
      exact ⟨rfl, HH.out⟩
  · skip
    have hs : s.give a p n = (e, s1) := by
      unfold Wd.give
      simp [eq1, hze, hm]
    rw [hs]
    have HE1 : Hid (_ = _) := eq1
    clear hs eq1
    go_enter Try.func68, Try.ntmps68
    go_wp2_with fail
    have hh := HH.out
    refine (wget_r HE1 (uw_isW _) (rms.le (by omega)) hh.wd).mono ?_
    rintro e_ w1 ⟨rfl, h1⟩
    replace HH := hid (hh.trans h1)
    clear hh h1
    go_wp2_with fail
    go_ret
    exact ⟨rfl, HH.out⟩
theorem rgive_r {b g c : Nat} {s : Wd} {a p n : Int} {e1 : Int} {s1 : Wd} (heq : Hid (s.give a p n = (e1, s1))) (hp : isW p) (hm : mayN n) (rms : Rm s 3) {w : World} (h : WdAt 30 w b g c s) :
    Calls Try.prog 68 #[.pointer (some ⟨b, 0, none⟩), .int .u64 a, .int .u64 p, .int .u64 n] w fun e w' => e = .returned (.int .i64 e1) ∧ Hs 30 w b g c w' s1 := by
  have q := rgive_any b g c s a p n hp hm rms w h
  rw [heq.out] at q
  exact q
set_option maxHeartbeats 2000000 in
theorem rslay_any (b g c : Nat) (s : Wd) (a : Int) (rms : Rm s 8) (w : World) (h : WdAt 30 w b g c s) :
    Calls Try.prog 31 #[.pointer (some ⟨b, 0, none⟩), .int .u64 a] w fun e w' => e = .returned (.int .i64 (s.slay a).1) ∧ Hs 30 w b g c w' (s.slay a).2 := by
  have HH := hid (Hs.start h)
  clear h
  unfold Wd.slay
  go_enter Try.func31, Try.ntmps31
  go_wp2_with fail
  go_loopw [5] (fun kv wr => ∃ k : Nat, k ≤ 8 ∧ kv = .int .u64 (k : Int) ∧ (slay a k s).1 = 0 ∧ Hid (Hs 30 w b g c wr (slay a k s).2)) (fun kv _ => 8 - (intOf kv).toNat)
  case atStart => exact ⟨0, by omega, rfl, rfl, HH⟩
  case round =>
    obtain ⟨k, hk, rfl, hz, HY⟩ := hrel
    clear HH
    by_cases hlt : k < 8
    · have hki : (k : Int) < 8 := by omega
      have hwk : IntKind.u64.wrap ((k : Int) + 1) = (k : Int) + 1 := by rw [IntKind.wrap_u64]; omega
      have hrm : Rm (slay a k s).2 1 := by
        have q := slay_len a s k
        unfold Rm at rms ⊢; omega
      obtain ⟨⟨e, s1⟩, eqp⟩ : ∃ r, (slay a k s).2.put (uw (a + k)) 0 = r := ⟨_, rfl⟩
      have HN : Hid (slay a (k + 1) s = (e, s1)) := by
        show (if (slay a k s).1 = 0 then (slay a k s).2.put (uw (a + k)) 0 else slay a k s) = _
        rw [if_pos hz]
        exact eqp
      have HE : Hid (_ = _) := eqp
      clear eqp hz hlt
      go_wp2_with fail
      refine (wput_r HE (uw_isW _) zero_isW hrm HY.out.wd).mono ?_
      rintro e_ w1 ⟨rfl, h1⟩
      have H1 := hid (HY.out.trans h1)
      clear HY HE h1 hrm
      by_cases he : e = 0
      · subst he
        go_wp2_with fail
        go_roundw
        case rel => exact ⟨k + 1, by omega, by simp, by rw [HN.out], by rw [HN.out]; exact H1⟩
        case measure => simp [intOf]; omega
      · have HST : Hid (slay a 8 s = (e, s1)) := by
          have q := slay_stop a s (k + 1) (by rw [HN.out]; exact he) (8 - (k + 1))
          rw [show k + 1 + (8 - (k + 1)) = 8 by omega, HN.out] at q
          exact q
        go_wp2_with fail
        go_ret
        rw [HST.out]
        exact ⟨rfl, H1.out⟩
    · obtain rfl : k = 8 := by omega
      clear hlt hk
      go_wp2_with fail
      go_ret
      rw [hz]
      exact ⟨rfl, HY.out⟩
theorem rslay_r {b g c : Nat} {s : Wd} {a e1 : Int} {s1 : Wd} (heq : Hid (s.slay a = (e1, s1))) (rms : Rm s 8) {w : World} (h : WdAt 30 w b g c s) :
    Calls Try.prog 31 #[.pointer (some ⟨b, 0, none⟩), .int .u64 a] w fun e w' => e = .returned (.int .i64 e1) ∧ Hs 30 w b g c w' s1 := by
  have q := rslay_any b g c s a rms w h
  rw [heq.out] at q
  exact q
theorem may8 : mayN 8 := ⟨by omega, by omega⟩
set_option maxHeartbeats 2000000 in
theorem rsnew_any (b g c : Nat) (s : Wd) (room : Int) (hr : isW room) (rms : Rm s 12) (w : World) (h : WdAt 30 w b g c s) :
    Calls Try.prog 32 #[.pointer (some ⟨b, 0, none⟩), .int .u64 room] w fun e w' => e = .returned (.tuple #[.int .u64 (s.snew room).1.1, .int .i64 (s.snew room).1.2]) ∧ Hs 30 w b g c w' (s.snew room).2 := by
  have oks : s.Ok := h.ok
  have HH := hid (Hs.start h)
  clear h
  obtain ⟨⟨⟨x, e⟩, s1⟩, eq1⟩ : ∃ r, s.take room 8 = r := ⟨_, rfl⟩
  have rms1 : Rm s1 8 := Rm.take (k := 8) rms eq1
  by_cases hze : e = 0
  · subst hze
    obtain ⟨⟨f, s2⟩, eq2⟩ : ∃ r, s1.slay x = r := ⟨_, rfl⟩
    by_cases hzf : f = 0
    · subst hzf
      have hs : s.snew room = ((x, 0), s2) := by
        unfold Wd.snew
        simp [eq1, eq2]
      rw [hs]
      have HE1 : Hid (_ = _) := eq1
      have HE2 : Hid (_ = _) := eq2
      clear hs eq1 eq2
      go_enter Try.func32, Try.ntmps32
      go_wp2_with fail
      have hh := HH.out
      refine (rtake_r HE1 hr may8 (rms.le (by omega)) hh.wd).mono ?_
      rintro e_ w1 ⟨rfl, h1⟩
      replace HH := hid (hh.trans h1)
      clear hh h1
      go_wp2_with fail
      have hh := HH.out
      refine (rslay_r HE2 (rms1.le (by omega)) hh.wd).mono ?_
      rintro e_ w2 ⟨rfl, h2⟩
      replace HH := hid (hh.trans h2)
      clear hh h2
      go_wp2_with fail
      go_ret2
      exact ⟨rfl, HH.out⟩
    · skip
      have hs : s.snew room = ((0, f), s2) := by
        unfold Wd.snew
        simp [eq1, eq2, hzf]
      rw [hs]
      have HE1 : Hid (_ = _) := eq1
      have HE2 : Hid (_ = _) := eq2
      clear hs eq1 eq2
      go_enter Try.func32, Try.ntmps32
      go_wp2_with fail
      have hh := HH.out
      refine (rtake_r HE1 hr may8 (rms.le (by omega)) hh.wd).mono ?_
      rintro e_ w1 ⟨rfl, h1⟩
      replace HH := hid (hh.trans h1)
      clear hh h1
      go_wp2_with fail
      have hh := HH.out
      refine (rslay_r HE2 (rms1.le (by omega)) hh.wd).mono ?_
      rintro e_ w2 ⟨rfl, h2⟩
      replace HH := hid (hh.trans h2)
      clear hh h2
      go_wp2_with fail
      go_ret2
      exact ⟨rfl, HH.out⟩
  · skip
    have hs : s.snew room = ((0, e), s1) := by
      unfold Wd.snew
      simp [eq1, hze]
    rw [hs]
    have HE1 : Hid (_ = _) := eq1
    clear hs eq1
    go_enter Try.func32, Try.ntmps32
    go_wp2_with fail
    have hh := HH.out
    refine (rtake_r HE1 hr may8 (rms.le (by omega)) hh.wd).mono ?_
    rintro e_ w1 ⟨rfl, h1⟩
    replace HH := hid (hh.trans h1)
    clear hh h1
    go_wp2_with fail
    go_ret2
    exact ⟨rfl, HH.out⟩
theorem rsnew_r {b g c : Nat} {s : Wd} {room : Int} {x1 e1 : Int} {s1 : Wd} (heq : Hid (s.snew room = ((x1, e1), s1))) (hr : isW room) (rms : Rm s 12) {w : World} (h : WdAt 30 w b g c s) :
    Calls Try.prog 32 #[.pointer (some ⟨b, 0, none⟩), .int .u64 room] w fun e w' => e = .returned (.tuple #[.int .u64 x1, .int .i64 e1]) ∧ Hs 30 w b g c w' s1 := by
  have q := rsnew_any b g c s room hr rms w h
  rw [heq.out] at q
  exact q
end Go.Proofs.Ytjgibkofenkehaa


/- The walk of the document's RoomLay (layer 22). No statement of the seat is proved here. -/
namespace Go.Proofs.Ytjgibkofenkehaa
open Go.RowKit

set_option maxHeartbeats 4000000 in
theorem rlay_any (b g c : Nat) (s : Wd) (a fr to : Int) (ha : isW a) (hfr : isW fr) (hto : isW to) (rms : Rm s 18) (w : World) (h : WdAt 30 w b g c s) :
    Calls Try.prog 40 #[.pointer (some ⟨b, 0, none⟩), .int .u64 a, .int .u64 fr, .int .u64 to] w fun e w' => e = .returned (.int .i64 (s.lay a fr to).1) ∧ Hs 30 w b g c w' (s.lay a fr to).2 := by
  have HH := hid (Hs.start h)
  clear h
  by_cases hft : to < fr
  · have hs : s.lay a fr to = (2, s) := by unfold Wd.lay; rw [if_pos hft]
    rw [hs]
    clear hs
    go_enter Try.func40, Try.ntmps40
    go_wp2_with fail
    go_ret
    exact ⟨rfl, HH.out⟩
  · have hs : s.lay a fr to = layK a (s.lay1 a fr to) 16 := by unfold Wd.lay; rw [if_neg hft]
    have hft' : fr ≤ to := by omega
    clear hft
    obtain ⟨⟨e1, s1⟩, eq1⟩ : ∃ r, s.put a fr = r := ⟨_, rfl⟩
    have rms1 : Rm s1 17 := rms.put eq1
    by_cases he1 : e1 = 0
    · subst he1
      obtain ⟨⟨e2, s2⟩, eq2⟩ : ∃ r, s1.put (endA a) to = r := ⟨_, rfl⟩
      have rms2 : Rm s2 16 := rms1.put eq2
      have hl : s.lay1 a fr to = (e2, s2) := by unfold Wd.lay1; simp [eq1, eq2]
      rw [hl] at hs
      have HLY : Hid (_ = _) := hs
      have HE1 : Hid (_ = _) := eq1
      have HE2 : Hid (_ = _) := eq2
      obtain ⟨es, hes⟩ : ∃ r, (e2, s2) = r := ⟨_, rfl⟩
      have HES : Hid ((e2, s2) = es) := hes
      rw [hes] at HLY
      clear hs eq1 eq2 hl hes
      go_enter Try.func40, Try.ntmps40
      go_wp2_with fail
      have hh := HH.out
      refine (wput_r HE1 ha hfr (rms.le (by omega)) hh.wd).mono ?_
      rintro e_ w1 ⟨rfl, h1⟩
      replace HH := hid (hh.trans h1)
      clear hh h1
      go_wp2_with fail
      have hh := HH.out
      refine (wput_r HE2 (uw_isW _) hto (rms1.le (by omega)) hh.wd).mono ?_
      rintro e_ w2 ⟨rfl, h2⟩
      replace HH := hid (hh.trans h2)
      clear hh h2
      go_wp2_with fail
      go_loopw [9, 10] (fun er sz wr => ∃ k : Nat, k ≤ 16 ∧ sz = .int .u64 (k : Int) ∧ er = .int .i64 (layK a (es) k).1 ∧ Hid (Hs 30 w b g c wr (layK a (es) k).2)) (fun _ sz _ => 16 - (intOf sz).toNat)
      case atStart => exact ⟨0, by omega, rfl, by show _ = Value.int .i64 es.1; rw [← HES.out], hid (by show Hs _ w b g c _ es.2; rw [← HES.out]; exact HH.out)⟩
      case round =>
        obtain ⟨k, hk, rfl, rfl, hr⟩ := hrel
        obtain ⟨⟨e, s'⟩, eqk⟩ : ∃ r, layK a (es) k = r := ⟨_, rfl⟩
        rw [eqk] at hr ⊢
        dsimp only at hr ⊢
        have HEK : Hid (layK a (es) k = (e, s')) := eqk
        clear eqk HH
        by_cases hlt : k < 16
        · have hk1 : (k : Int) + 1 ≤ 16 := by omega
          have hk0 : 1 ≤ (k : Int) + 1 := by omega
          by_cases he : e = 0
          · subst he
            obtain ⟨⟨e', s''⟩, eqp⟩ : ∃ r, s'.put (hdA a ((k : Int) + 1)) 0 = r := ⟨_, rfl⟩
            have HN : Hid (layK a (es) (k + 1) = (e', s'')) := by
              show (if (layK a (es) k).1 = 0 then (layK a (es) k).2.put (hdA a ((k : Int) + 1)) 0 else layK a (es) k) = _
              rw [HEK.out]
              exact eqp
            have HE : Hid (_ = _) := eqp
            have hrm : Rm s' 1 := by
              have q := layK_len a es k
              rw [HEK.out, ← HES.out] at q
              have q1 : s'.L.length ≤ s2.L.length + k := q
              unfold Rm at rms2 ⊢; omega
            clear eqp HEK hlt
            have hwk : IntKind.u64.wrap ((k : Int) + 1) = (k : Int) + 1 := by rw [IntKind.wrap_u64]; omega
            have hk16 : (k : Int) < 16 := by omega
            have hHD : Hid (hdA a ((k : Int) + 1) = uw (uw (a + 2) + k)) := by refine hid ?_; unfold hdA uw; simp only [IntKind.wrap_u64]; omega
            rw [hHD.out] at HE
            go_wp2_with fail
            have hh := hr.out
            refine (wput_r HE (uw_isW _) zero_isW hrm hh.wd).mono ?_
            rintro e_ w2 ⟨rfl, h2⟩
            have HF := hid (hh.trans h2)
            clear hh h2 hr HE hrm
            go_wp2_with fail
            go_roundw
            case rel => exact ⟨k + 1, by omega, by simp, by rw [HN.out], by rw [HN.out]; exact HF⟩
            case measure => simp [intOf]; omega
          · have HST : Hid (layK a (es) 16 = (e, s')) := by
              have q := layK_stop a (es) k (by rw [HEK.out]; exact he) (16 - k)
              rw [show k + (16 - k) = 16 by omega, HEK.out] at q
              exact q
            clear HEK
            go_wp2_with fail
            go_ret
            rw [HLY.out, HST.out]
            exact ⟨rfl, hr.out⟩
        · obtain rfl : k = 16 := by omega
          clear hlt hk
          go_wp2_with fail
          go_ret
          rw [HLY.out, HEK.out]
          exact ⟨rfl, hr.out⟩
    · have hl : s.lay a fr to = (e1, s1) := by
        have q : s.lay1 a fr to = (e1, s1) := by unfold Wd.lay1; simp [eq1, he1]
        rw [hs, q]
        have q2 := layK_stop a (e1, s1) 0 he1 16
        rw [Nat.zero_add] at q2
        exact q2
      rw [hl]
      have HE1 : Hid (_ = _) := eq1
      clear hs eq1 hl
      go_enter Try.func40, Try.ntmps40
      go_wp2_with fail
      have hh := HH.out
      refine (wput_r HE1 ha hfr (rms.le (by omega)) hh.wd).mono ?_
      rintro e_ w1 ⟨rfl, h1⟩
      replace HH := hid (hh.trans h1)
      clear hh h1
      go_wp2_with fail
      go_loopw [9, 10] (fun er sz wr => sz = .int .u64 0 ∧ er = .int .i64 e1 ∧ Hid (Hs 30 w b g c wr s1)) (fun _ _ _ => 0)
      case atStart => exact ⟨rfl, rfl, HH⟩
      case round =>
        obtain ⟨rfl, rfl, hr⟩ := hrel
        clear HH
        go_wp2_with fail
        go_ret
        exact ⟨rfl, hr.out⟩
theorem rlay_r {b g c : Nat} {s : Wd} {a fr to e1 : Int} {s1 : Wd} (heq : Hid (s.lay a fr to = (e1, s1))) (ha : isW a) (hfr : isW fr) (hto : isW to) (rms : Rm s 18) {w : World} (h : WdAt 30 w b g c s) :
    Calls Try.prog 40 #[.pointer (some ⟨b, 0, none⟩), .int .u64 a, .int .u64 fr, .int .u64 to] w fun e w' => e = .returned (.int .i64 e1) ∧ Hs 30 w b g c w' s1 := by
  have q := rlay_any b g c s a fr to ha hfr hto rms w h
  rw [heq.out] at q
  exact q
end Go.Proofs.Ytjgibkofenkehaa
