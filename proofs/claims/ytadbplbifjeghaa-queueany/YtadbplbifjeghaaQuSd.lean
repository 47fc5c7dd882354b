
/- The walk of queue's First (layer 23). No statement of the seat is proved here. -/
import Derived.Test.YtadbplbifjeghaaQuR
namespace Go.Proofs.Ytadbplbifjeghaa
open Go.RowKit

set_option maxHeartbeats 2000000 in
theorem qfirst_any (t b g c : Nat) (s : Wd) (q : Int) (hq : isW q) (w : World) (h : Tw w t b g c s) :
    Calls Try.prog 25 #[.iface 24 (.pointer (some ⟨t, 0, none⟩)), .int .u64 q] w fun e w' => e = .returned (.tuple #[.int .u64 (Wd.qfirst q s).1.1.1, .bool (Wd.qfirst q s).1.1.2, .int .i64 (Wd.qfirst q s).1.2]) ∧ Tw w' t b g c (Wd.qfirst q s).2 ∧ Keeps (two b g) w w' := by
  have mg := meth_get t
  have mp := meth_put t
  have ng := nil_get t
  have np := nil_put t
  have oks : s.Ok := h.wd.ok
  have HH := hid h
  clear h
  have hq0 : IntKind.u64.wrap q = q := uw_id hq
  have hq1 : IntKind.u64.wrap (q + 0) = q := by rw [Int.add_zero]; exact uw_id hq
  have hn0 : ∀ x, IntKind.u64.wrap (nodeA x) = nodeA x := fun x => uw_id (uw_isW _)
  have hn1 : ∀ x, IntKind.u64.wrap (nodeA x + 0) = nodeA x := fun x => by rw [Int.add_zero]; exact uw_id (uw_isW _)
  obtain ⟨⟨⟨x, e⟩, s1⟩, eq1⟩ : ∃ r, s.get (q) = r := ⟨_, rfl⟩
  have hwx : isW x := get_isW eq1 oks
  have oks1 : s1.Ok := by have q := (oks.get (q)).1; rw [eq1] at q; exact q
  by_cases hze : e = 0
  · subst hze
    by_cases hzx : x = 0
    · subst hzx
      have hs : Wd.qfirst q s = (((0, false), 0), s1) := by
        unfold Wd.qfirst
        simp [eq1, bnd, rtn]
      rw [hs]
      have HE1 : Hid (_ = _) := eq1
      clear hs eq1
      have kk : Hid (Keeps (two b g) w w) := Keeps.refl _ w
      go_enter Try.func25, Try.ntmps25
      go_wp2_with fail
      have hh := HH.out
      refine (tget_r HE1 hq hh).mono ?_
      rintro e_ w1 ⟨rfl, h1, k1⟩
      replace HH := hid h1
      replace kk := hid (kk.out.trans k1)
      clear hh h1 k1
      go_wp2_with fail
      go_ret3
      exact ⟨rfl, HH.out, kk.out⟩
    · skip
      obtain ⟨⟨⟨y, f⟩, s2⟩, eq2⟩ : ∃ r, s1.get (nodeA x) = r := ⟨_, rfl⟩
      have hwy : isW y := get_isW eq2 oks1
      have oks2 : s2.Ok := by have q := (oks1.get (nodeA x)).1; rw [eq2] at q; exact q
      by_cases hzf : f = 0
      · subst hzf
        have hs : Wd.qfirst q s = (((y, true), 0), s2) := by
          unfold Wd.qfirst
          simp [eq1, eq2, hzx, bnd, rtn]
        rw [hs]
        have HE1 : Hid (_ = _) := eq1
        have HE2 : Hid (_ = _) := eq2
        clear hs eq1 eq2
        have kk : Hid (Keeps (two b g) w w) := Keeps.refl _ w
        go_enter Try.func25, Try.ntmps25
        go_wp2_with fail
        have hh := HH.out
        refine (tget_r HE1 hq hh).mono ?_
        rintro e_ w1 ⟨rfl, h1, k1⟩
        replace HH := hid h1
        replace kk := hid (kk.out.trans k1)
        clear hh h1 k1
        go_wp2_with fail
        have HT : Hid (∀ X : World, X.heap = w1.heap → X.os = w1.os → X.tape = w1.tape → X.output = w1.output → Calls Try.prog 65 #[.pointer (some ⟨t, 0, none⟩), .int .u64 (nodeA x)] X fun r w' => r = .returned _ ∧ Tw w' t b g c s2 ∧ Keeps (two b g) w w') := fun X e1 e2 e3 e4 => ((tget_r HE2 (uw_isW _) (HH.out.like e1)).mono fun r w' hq => ⟨hq.1, hq.2.1, (kk.out.like e1 e2 e3 e4).trans hq.2.2⟩)
        clear HH kk
        go_region_held3 (fun _ : World => True) (trivial) ((first | (go_at_call 40; refine (nodeOf_any x _).mono ?_; rintro e_ w_ ⟨rfl, rfl⟩) | (go_at_call 65; refine (HT.out _ (by exact rfl) (by exact rfl) (by exact rfl) (by exact rfl)).mono ?_; rintro e_ w2 ⟨rfl, h2, k2⟩)))
        all_goals have HH := hid h2
        all_goals have kk := hid k2
        all_goals clear HT h2 k2
        all_goals go_wp2_with fail
        all_goals go_ret3
        all_goals exact ⟨rfl, HH.out, kk.out⟩
      · skip
        have hs : Wd.qfirst q s = (((0, false), f), s2) := by
          unfold Wd.qfirst
          simp [eq1, eq2, hzx, hzf, bnd]
        rw [hs]
        have HE1 : Hid (_ = _) := eq1
        have HE2 : Hid (_ = _) := eq2
        clear hs eq1 eq2
        have kk : Hid (Keeps (two b g) w w) := Keeps.refl _ w
        go_enter Try.func25, Try.ntmps25
        go_wp2_with fail
        have hh := HH.out
        refine (tget_r HE1 hq hh).mono ?_
        rintro e_ w1 ⟨rfl, h1, k1⟩
        replace HH := hid h1
        replace kk := hid (kk.out.trans k1)
        clear hh h1 k1
        go_wp2_with fail
        have HT : Hid (∀ X : World, X.heap = w1.heap → X.os = w1.os → X.tape = w1.tape → X.output = w1.output → Calls Try.prog 65 #[.pointer (some ⟨t, 0, none⟩), .int .u64 (nodeA x)] X fun r w' => r = .returned _ ∧ Tw w' t b g c s2 ∧ Keeps (two b g) w w') := fun X e1 e2 e3 e4 => ((tget_r HE2 (uw_isW _) (HH.out.like e1)).mono fun r w' hq => ⟨hq.1, hq.2.1, (kk.out.like e1 e2 e3 e4).trans hq.2.2⟩)
        clear HH kk
        go_region_held3 (fun _ : World => True) (trivial) ((first | (go_at_call 40; refine (nodeOf_any x _).mono ?_; rintro e_ w_ ⟨rfl, rfl⟩) | (go_at_call 65; refine (HT.out _ (by exact rfl) (by exact rfl) (by exact rfl) (by exact rfl)).mono ?_; rintro e_ w2 ⟨rfl, h2, k2⟩)))
        all_goals have HH := hid h2
        all_goals have kk := hid k2
        all_goals clear HT h2 k2
        all_goals go_wp2_with fail
        all_goals go_ret3
        all_goals exact ⟨rfl, HH.out, kk.out⟩
  · skip
    have hs : Wd.qfirst q s = (((0, false), e), s1) := by
      unfold Wd.qfirst
      simp [eq1, hze, bnd]
    rw [hs]
    have HE1 : Hid (_ = _) := eq1
    clear hs eq1
    have kk : Hid (Keeps (two b g) w w) := Keeps.refl _ w
    go_enter Try.func25, Try.ntmps25
    go_wp2_with fail
    have hh := HH.out
    refine (tget_r HE1 hq hh).mono ?_
    rintro e_ w1 ⟨rfl, h1, k1⟩
    replace HH := hid h1
    replace kk := hid (kk.out.trans k1)
    clear hh h1 k1
    go_wp2_with fail
    go_ret3
    exact ⟨rfl, HH.out, kk.out⟩
theorem qfirst_r {t b g c : Nat} {s : Wd} {q : Int} {x1 : Int} {b1 : Bool} {e1 : Int} {s1 : Wd} (heq : Hid (Wd.qfirst q s = (((x1, b1), e1), s1))) (hq : isW q) {w : World} (h : Tw w t b g c s) :
    Calls Try.prog 25 #[.iface 24 (.pointer (some ⟨t, 0, none⟩)), .int .u64 q] w fun e w' => e = .returned (.tuple #[.int .u64 x1, .bool b1, .int .i64 e1]) ∧ Tw w' t b g c s1 ∧ Keeps (two b g) w w' := by
  have q := qfirst_any t b g c s q hq w h
  rw [heq.out] at q
  exact q
end Go.Proofs.Ytadbplbifjeghaa
