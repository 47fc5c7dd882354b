
/- The walks of room's functions (layer 25). No statement of the seat is proved here. -/
import Derived.Test.YtiacennkjjfifabTkD
namespace Go.Proofs.Ytiacennkjjfifab
open Go.RowKit

set_option maxHeartbeats 2000000 in
theorem unused_any (b g c : Nat) (s : Wd) (a : Int) (ha : isW a) (rms : Rm s 2) (w : World) (h : WdAt 65 w b g c s) :
    Calls Try.prog 42 #[.iface 62 (.pointer (some ⟨b, 0, none⟩)), .int .u64 a] w fun e w' => e = .returned (.tuple #[.int .u64 (s.free a).1.1, .int .u64 (s.free a).1.2.1, .int .i64 (s.free a).1.2.2]) ∧ Hs 65 w b g c w' (s.free a).2 := by
  have mg := meth_get b
  have mp := meth_put b
  have ng := nil_get b
  have np := nil_put b
  have oks : s.Ok := h.ok
  have HH := hid (Hs.start h)
  clear h
  obtain ⟨⟨⟨x, e⟩, s1⟩, eq1⟩ : ∃ r, s.get (a) = r := ⟨_, rfl⟩
  have hwx : isW x := get_isW eq1 oks
  have oks1 : s1.Ok := by have q := (oks.get (a)).1; rw [eq1] at q; exact q
  have rms1 : Rm s1 1 := rms.get eq1
  by_cases hze : e = 0
  · subst hze
    obtain ⟨⟨⟨y, f⟩, s2⟩, eq2⟩ : ∃ r, s1.get (endA a) = r := ⟨_, rfl⟩
    have hwy : isW y := get_isW eq2 oks1
    have oks2 : s2.Ok := by have q := (oks1.get (endA a)).1; rw [eq2] at q; exact q
    have rms2 : Rm s2 0 := rms1.get eq2
    by_cases hzf : f = 0
    · subst hzf
      by_cases hxy : x < y
      · skip
        have hs : s.free a = ((x, uw (y - x), 0), s2) := by
          unfold Wd.free
          simp [eq1, eq2, hxy]
        rw [hs]
        have HE1 : Hid (_ = _) := eq1
        have HE2 : Hid (_ = _) := eq2
        clear hs eq1 eq2
        go_enter Try.func42, Try.ntmps42
        go_wp2_with fail
        have hh := HH.out
        refine (tget_r HE1 ha (rms.le (by omega)) hh.wd).mono ?_
        rintro e_ w1 ⟨rfl, h1⟩
        replace HH := hid (hh.trans h1)
        clear hh h1
        go_wp2_with fail
        have HT : Hid (∀ X : World, X.heap = w1.heap → X.os = w1.os → X.tape = w1.tape → X.output = w1.output → Calls Try.prog 66 #[.pointer (some ⟨b, 0, none⟩), .int .u64 (endA a)] X fun r w' => r = .returned _ ∧ Hs 65 w b g c w' s2) := fun X e1 e2 e3 e4 => ((tget_r HE2 (uw_isW _) (rms1.le (by omega)) (HH.out.wd.like e1)).mono fun r w' hq => ⟨hq.1, (HH.out.like e1 e2 e3 e4).trans hq.2⟩)
        clear HH
        go_region_held3 (fun _ : World => True) (trivial) ((first | (go_at_call 41; refine (endOf_any a _).mono ?_; rintro e_ w_ ⟨rfl, rfl⟩) | (go_at_call 66; refine (HT.out _ (by exact rfl) (by exact rfl) (by exact rfl) (by exact rfl)).mono ?_; rintro e_ w2 ⟨rfl, h2⟩)))
        all_goals have HH := hid h2
        all_goals clear HT h2
        all_goals go_wp2_with fail
        all_goals go_ret3
        all_goals exact ⟨rfl, HH.out⟩
      · skip
        have hs : s.free a = ((x, 0, 0), s2) := by
          unfold Wd.free
          simp [eq1, eq2, hxy]
        rw [hs]
        have HE1 : Hid (_ = _) := eq1
        have HE2 : Hid (_ = _) := eq2
        clear hs eq1 eq2
        go_enter Try.func42, Try.ntmps42
        go_wp2_with fail
        have hh := HH.out
        refine (tget_r HE1 ha (rms.le (by omega)) hh.wd).mono ?_
        rintro e_ w1 ⟨rfl, h1⟩
        replace HH := hid (hh.trans h1)
        clear hh h1
        go_wp2_with fail
        have HT : Hid (∀ X : World, X.heap = w1.heap → X.os = w1.os → X.tape = w1.tape → X.output = w1.output → Calls Try.prog 66 #[.pointer (some ⟨b, 0, none⟩), .int .u64 (endA a)] X fun r w' => r = .returned _ ∧ Hs 65 w b g c w' s2) := fun X e1 e2 e3 e4 => ((tget_r HE2 (uw_isW _) (rms1.le (by omega)) (HH.out.wd.like e1)).mono fun r w' hq => ⟨hq.1, (HH.out.like e1 e2 e3 e4).trans hq.2⟩)
        clear HH
        go_region_held3 (fun _ : World => True) (trivial) ((first | (go_at_call 41; refine (endOf_any a _).mono ?_; rintro e_ w_ ⟨rfl, rfl⟩) | (go_at_call 66; refine (HT.out _ (by exact rfl) (by exact rfl) (by exact rfl) (by exact rfl)).mono ?_; rintro e_ w2 ⟨rfl, h2⟩)))
        all_goals have HH := hid h2
        all_goals clear HT h2
        all_goals go_wp2_with fail
        all_goals go_ret3
        all_goals exact ⟨rfl, HH.out⟩
    · skip
      have hs : s.free a = ((0, 0, f), s2) := by
        unfold Wd.free
        simp [eq1, eq2, hzf]
      rw [hs]
      have HE1 : Hid (_ = _) := eq1
      have HE2 : Hid (_ = _) := eq2
      clear hs eq1 eq2
      go_enter Try.func42, Try.ntmps42
      go_wp2_with fail
      have hh := HH.out
      refine (tget_r HE1 ha (rms.le (by omega)) hh.wd).mono ?_
      rintro e_ w1 ⟨rfl, h1⟩
      replace HH := hid (hh.trans h1)
      clear hh h1
      go_wp2_with fail
      have HT : Hid (∀ X : World, X.heap = w1.heap → X.os = w1.os → X.tape = w1.tape → X.output = w1.output → Calls Try.prog 66 #[.pointer (some ⟨b, 0, none⟩), .int .u64 (endA a)] X fun r w' => r = .returned _ ∧ Hs 65 w b g c w' s2) := fun X e1 e2 e3 e4 => ((tget_r HE2 (uw_isW _) (rms1.le (by omega)) (HH.out.wd.like e1)).mono fun r w' hq => ⟨hq.1, (HH.out.like e1 e2 e3 e4).trans hq.2⟩)
      clear HH
      go_region_held3 (fun _ : World => True) (trivial) ((first | (go_at_call 41; refine (endOf_any a _).mono ?_; rintro e_ w_ ⟨rfl, rfl⟩) | (go_at_call 66; refine (HT.out _ (by exact rfl) (by exact rfl) (by exact rfl) (by exact rfl)).mono ?_; rintro e_ w2 ⟨rfl, h2⟩)))
      all_goals have HH := hid h2
      all_goals clear HT h2
      all_goals go_wp2_with fail
      all_goals go_ret3
      all_goals exact ⟨rfl, HH.out⟩
  · skip
    have hs : s.free a = ((0, 0, e), s1) := by
      unfold Wd.free
      simp [eq1, hze]
    rw [hs]
    have HE1 : Hid (_ = _) := eq1
    clear hs eq1
    go_enter Try.func42, Try.ntmps42
    go_wp2_with fail
    have hh := HH.out
    refine (tget_r HE1 ha (rms.le (by omega)) hh.wd).mono ?_
    rintro e_ w1 ⟨rfl, h1⟩
    replace HH := hid (hh.trans h1)
    clear hh h1
    go_wp2_with fail
    go_ret3
    exact ⟨rfl, HH.out⟩
theorem unused_r {b g c : Nat} {s : Wd} {a : Int} {x1 y1 e1 : Int} {s1 : Wd} (heq : Hid (s.free a = ((x1, y1, e1), s1))) (ha : isW a) (rms : Rm s 2) {w : World} (h : WdAt 65 w b g c s) :
    Calls Try.prog 42 #[.iface 62 (.pointer (some ⟨b, 0, none⟩)), .int .u64 a] w fun e w' => e = .returned (.tuple #[.int .u64 x1, .int .u64 y1, .int .i64 e1]) ∧ Hs 65 w b g c w' s1 := by
  have q := unused_any b g c s a ha rms w h
  rw [heq.out] at q
  exact q
end Go.Proofs.Ytiacennkjjfifab
