
/- The walks of queue's recount and Len (layer 23). No statement of the seat is proved here. -/
import Derived.Test.YtadbplbifjeghaaQuR
namespace Go.Proofs.Ytadbplbifjeghaa
open Go.RowKit

set_option maxHeartbeats 2000000 in
theorem recount_any (t b g c : Nat) (s : Wd) (q m : Int)  (w : World) (h : Tw w t b g c s) :
    Calls Try.prog 38 #[.iface 24 (.pointer (some ⟨t, 0, none⟩)), .int .u64 q, .int .u64 m] w fun e w' => e = .returned (.int .i64 (recountU q m s).1.2) ∧ Tw w' t b g c (recountU q m s).2 ∧ Keeps (two b g) w w' := by
  have mg := meth_get t
  have mp := meth_put t
  have ng := nil_get t
  have np := nil_put t
  have oks : s.Ok := h.wd.ok
  have HH := hid h
  clear h
  obtain ⟨⟨⟨x, e⟩, s1⟩, eq1⟩ : ∃ r, s.get (q2 q) = r := ⟨_, rfl⟩
  have hwx : isW x := get_isW eq1 oks
  have oks1 : s1.Ok := by have q := (oks.get (q2 q)).1; rw [eq1] at q; exact q
  by_cases hze : e = 0
  · subst hze
    obtain ⟨⟨f, s2⟩, eq2⟩ : ∃ r, s1.put (q2 q) (uw (x + m)) = r := ⟨_, rfl⟩
    have hs : recountU q m s = (((), f), s2) := by
      unfold recountU
      simp [eq1, eq2, bnd, putU]
    rw [hs]
    have HE1 : Hid (_ = _) := eq1
    have HE2 : Hid (_ = _) := eq2
    clear hs eq1 eq2
    have kk : Hid (Keeps (two b g) w w) := Keeps.refl _ w
    go_enter Try.func38, Try.ntmps38
    go_wp2_with fail
    have hh := HH.out
    refine (tget_r HE1 (uw_isW _) hh).mono ?_
    rintro e_ w1 ⟨rfl, h1, k1⟩
    replace HH := hid h1
    replace kk := hid (kk.out.trans k1)
    clear hh h1 k1
    go_wp2_with fail
    have hh := HH.out
    refine (tput_r HE2 (uw_isW _) (uw_isW _) hh).mono ?_
    rintro e_ w2 ⟨rfl, h2, k2⟩
    replace HH := hid h2
    replace kk := hid (kk.out.trans k2)
    clear hh h2 k2
    go_wp2_with fail
    go_ret
    exact ⟨rfl, HH.out, kk.out⟩
  · skip
    have hs : recountU q m s = (((), e), s1) := by
      unfold recountU
      simp [eq1, hze, bnd]
    rw [hs]
    have HE1 : Hid (_ = _) := eq1
    clear hs eq1
    have kk : Hid (Keeps (two b g) w w) := Keeps.refl _ w
    go_enter Try.func38, Try.ntmps38
    go_wp2_with fail
    have hh := HH.out
    refine (tget_r HE1 (uw_isW _) hh).mono ?_
    rintro e_ w1 ⟨rfl, h1, k1⟩
    replace HH := hid h1
    replace kk := hid (kk.out.trans k1)
    clear hh h1 k1
    go_wp2_with fail
    go_ret
    exact ⟨rfl, HH.out, kk.out⟩
theorem recount_r {t b g c : Nat} {s : Wd} {q m : Int} {e1 : Int} {s1 : Wd} (heq : Hid (recountU q m s = (((), e1), s1)))  {w : World} (h : Tw w t b g c s) :
    Calls Try.prog 38 #[.iface 24 (.pointer (some ⟨t, 0, none⟩)), .int .u64 q, .int .u64 m] w fun e w' => e = .returned (.int .i64 e1) ∧ Tw w' t b g c s1 ∧ Keeps (two b g) w w' := by
  have q := recount_any t b g c s q m  w h
  rw [heq.out] at q
  exact q
set_option maxHeartbeats 2000000 in
theorem qlen_any (t b g c : Nat) (s : Wd) (q : Int)  (w : World) (h : Tw w t b g c s) :
    Calls Try.prog 26 #[.iface 24 (.pointer (some ⟨t, 0, none⟩)), .int .u64 q] w fun e w' => e = .returned (.tuple #[.int .u64 (Wd.qlen q s).1.1, .int .i64 (Wd.qlen q s).1.2]) ∧ Tw w' t b g c (Wd.qlen q s).2 ∧ Keeps (two b g) w w' := by
  have mg := meth_get t
  have mp := meth_put t
  have ng := nil_get t
  have np := nil_put t
  have oks : s.Ok := h.wd.ok
  have HH := hid h
  clear h
  obtain ⟨⟨⟨x, e⟩, s1⟩, eq1⟩ : ∃ r, s.get (q2 q) = r := ⟨_, rfl⟩
  have hwx : isW x := get_isW eq1 oks
  have oks1 : s1.Ok := by have q := (oks.get (q2 q)).1; rw [eq1] at q; exact q
  by_cases hze : e = 0
  · subst hze
    have hs : Wd.qlen q s = ((x, 0), s1) := by
      unfold Wd.qlen
      simp [eq1, bnd, rtn]
    rw [hs]
    have HE1 : Hid (_ = _) := eq1
    clear hs eq1
    have kk : Hid (Keeps (two b g) w w) := Keeps.refl _ w
    go_enter Try.func26, Try.ntmps26
    go_wp2_with fail
    have hh := HH.out
    refine (tget_r HE1 (uw_isW _) hh).mono ?_
    rintro e_ w1 ⟨rfl, h1, k1⟩
    replace HH := hid h1
    replace kk := hid (kk.out.trans k1)
    clear hh h1 k1
    go_wp2_with fail
    go_ret2
    exact ⟨rfl, HH.out, kk.out⟩
  · skip
    have hs : Wd.qlen q s = ((0, e), s1) := by
      unfold Wd.qlen
      simp [eq1, hze, bnd]
    rw [hs]
    have HE1 : Hid (_ = _) := eq1
    clear hs eq1
    have kk : Hid (Keeps (two b g) w w) := Keeps.refl _ w
    go_enter Try.func26, Try.ntmps26
    go_wp2_with fail
    have hh := HH.out
    refine (tget_r HE1 (uw_isW _) hh).mono ?_
    rintro e_ w1 ⟨rfl, h1, k1⟩
    replace HH := hid h1
    replace kk := hid (kk.out.trans k1)
    clear hh h1 k1
    go_wp2_with fail
    go_ret2
    exact ⟨rfl, HH.out, kk.out⟩
theorem qlen_r {t b g c : Nat} {s : Wd} {q : Int} {x1 e1 : Int} {s1 : Wd} (heq : Hid (Wd.qlen q s = ((x1, e1), s1)))  {w : World} (h : Tw w t b g c s) :
    Calls Try.prog 26 #[.iface 24 (.pointer (some ⟨t, 0, none⟩)), .int .u64 q] w fun e w' => e = .returned (.tuple #[.int .u64 x1, .int .i64 e1]) ∧ Tw w' t b g c s1 ∧ Keeps (two b g) w w' := by
  have q := qlen_any t b g c s q  w h
  rw [heq.out] at q
  exact q
end Go.Proofs.Ytadbplbifjeghaa
